/-
  Contracts of sbox.Box and sbox.Back. No conditions.
-/
import Derived.Test.YtonoidhlbnbhcaaDoorSwap
import Derived.Test.YtonoidhlbnbhcaaDoorSboxFns
namespace Go.Proofs.YtonoidhlbnbhcaaDoor
open Go.RowKit Arr Gf Sb

/-- What n rounds more make of the box. -/
def fill : Nat → Nat → Nat → List Nat → List Nat
  | 0, _, _, l => l
  | n + 1, e, v, l => fill n (T e 3) (T v 246) (l.set e (tb v))
/-- The box with its first byte alone. -/
def box0 : List Nat := (zs 256).set 0 99
theorem box0_len : box0.length = 256 := by rw [box0, List.length_set, length_zs]
theorem fill_all : fill 255 1 1 box0 = boxL := by decide +kernel
theorem inv_3 : inv 3 = 246 := by rw [← p254_eq 3 (by omega)]; decide +kernel
theorem boxL_bytes : Sw.Bytes boxL := boxL_lt

theorem na_box0 : na .u8 box0 = ((nv .u8 (zs 256)).set 0 (.int .u8 99)).toArray := by rw [na, box0, nv_set]; rfl

/-- What a call leaves that hands an array of bytes back. -/
def GivesA (m : List Nat) (w : World) (e : Ending) (w' : World) : Prop := e = .returned (.agg (na .u8 m)) ∧ Below w.heap.size w w'

set_option maxHeartbeats 2000000 in
theorem box_any (w : World) : Calls Tryd.prog 25 #[] w (GivesA boxL w) := by
  have s1 : (w.alloc (.cells (na .u8 (zs 256)) 51)).heap.size = w.heap.size + 1 := World.size_alloc ..
  have A1 := (Holds.new w 51 .u8 (zs 256)).alloc (.cells (na .u8 box0) 51)
  have A2 := Holds.new (w.alloc (.cells (na .u8 (zs 256)) 51)) 51 .u8 box0
  rw [s1] at A2
  have A3 := ((Below.refl w.heap.size w).alloc (Nat.le_refl _) (.cells (na .u8 (zs 256)) 51)).alloc (by rw [s1]; omega) (.cells (na .u8 box0) 51)
  have C1 := inverse_any 3 (by omega) ((w.alloc (.cells (na .u8 (zs 256)) 51)).alloc (.cells (na .u8 box0) 51))
  have z0 : (na .u8 (zs 256)).size = 256 := by rw [size_na, length_zs]
  have z1 : (nv .u8 (zs 256))[0]? = some (.int .u8 0) := by rw [nv_get .u8 _ 0 (by rw [length_zs]; omega), zs_get]; rfl
  rw [na_box0] at A1 A2 A3 C1
  rw [inv_3] at C1
  have B1 := Lib.hid A1
  have B2 := Lib.hid A2
  have B3 := Lib.hid A3
  have C1 := Lib.hid C1
  clear A1 A2 A3 s1
  go_enter Tryd.func25, Tryd.ntmps25
  go_wp2_with (first | (with_reducible refine Arr.alloc (t := 51) _ z23 ?_) | fail)
  refine C1.out.mono ?_
  rintro e w' ⟨rfl, rfl⟩
  go_wp2_with fail
  generalize (w.alloc (.cells (na .u8 (zs 256)) 51)).alloc (.cells ((nv .u8 (zs 256)).set 0 (.int .u8 99)).toArray 51) = w0 at *
  go_loopw [3, 4, 7] (fun a b i wr => ∃ (k e v : Nat) (l : List Nat), k ≤ 255 ∧ i = .int .i64 (k : Nat) ∧ a = .int .u8 (e : Nat) ∧ b = .int .u8 (v : Nat) ∧ e < 256 ∧ v < 256 ∧ l.length = 256 ∧ fill (255 - k) e v l = boxL ∧ Holds wr w.heap.size .u8 (zs 256) ∧ Holds wr (w.heap.size + 1) .u8 l ∧ Below w.heap.size w wr) (fun _ _ i _ => 255 - (intOf i).toNat)
  case atStart => exact ⟨0, 1, 1, box0, by omega, rfl, rfl, rfl, by omega, by omega, box0_len, fill_all, B1.out, B2.out, B3.out⟩
  case round =>
    clear B1 B2 B3 C1 z0 z1
    obtain ⟨k, e, v, l, hk, rfl, rfl, rfl, he, hv, hl, hf, h1, h2, h3⟩ := hrel
    have H1 := Lib.hid h1; clear h1
    have H2 := Lib.hid h2; clear h2
    have H3 := Lib.hid h3; clear h3
    have hl' := Lib.hid hl
    by_cases hlt : k < 255
    · have ht : decide ((k : Int) < 255) = true := by simp; omega
      rw [show 255 - k = (255 - (k + 1)) + 1 by omega] at hf
      have HF := Lib.hid (show fill (255 - (k + 1)) (T e 3) (T v 246) (l.set e (tb v)) = boxL from hf)
      have C1 := Lib.hid (turned_any v hv wr)
      have C2 := fun w => times_any e 3 he (by omega) w
      have C3 := fun w => times_any v 246 hv (by omega) w
      have l1 := T_lt e 3 he
      have l2 := T_lt v 246 hv
      have hcell := H2.out.cell e (by rw [hl]; exact he)
      have hfro := H2.out.frozen e (by rw [hl]; exact he)
      have X1 := H1.out.beside ⟨w.heap.size + 1, e, none⟩ (.int .u8 ((tb v : Nat) : Int)) (show w.heap.size + 1 ≠ w.heap.size by omega)
      have X2 := H2.out.set e (tb v) (by rw [hl]; exact he)
      have X3 := H3.out.setCell (p := ⟨w.heap.size + 1, e, none⟩) (show w.heap.size ≤ w.heap.size + 1 by omega) (.int .u8 ((tb v : Nat) : Int))
      clear hf
      generalize tb v = t at *
      generalize T e 3 = e' at *
      generalize T v 246 = v' at *
      generalize l.getD e 0 = old at *
      have X1 := Lib.hid X1
      have X2 := Lib.hid X2
      have X3 := Lib.hid X3
      have C2 := Lib.hid C2
      have C3 := Lib.hid C3
      go_wp2_with fail
      refine C1.out.mono ?_
      rintro e w' ⟨rfl, rfl⟩
      go_wp2_with fail
      refine (C2.out _).mono ?_
      rintro e w' ⟨rfl, rfl⟩
      go_wp2_with fail
      refine (C3.out _).mono ?_
      rintro e w' ⟨rfl, rfl⟩
      go_wp2
      go_roundw
      case rel => exact ⟨k + 1, e', v', _, by omega, by go_num, rfl, rfl, l1, l2, by rw [List.length_set, hl], HF.out, X1.out, X2.out, X3.out⟩
      case measure => simp [intOf]; omega
    · obtain rfl : k = 255 := by omega
      obtain rfl : l = boxL := hf
      generalize boxL = l at *
      go_wp2_with (first | (with_reducible refine Arr.load o23 (w.heap.size + 1) l hl'.out H2.out rfl ?_) | (with_reducible refine Arr.store o23 w.heap.size (zs 256) l (length_zs _) H1.out hl'.out rfl rfl ?_))
      exact bodyPost_ret (v := .agg (na .u8 l)) (results_arr o23 rfl _ _ w.heap.size l hl'.out (H1.out.put _ (by rw [hl'.out, length_zs])) rfl) rfl ⟨rfl, below_setCells (Nat.le_refl _) _ _ _ H3.out⟩

/-- The box back. -/
def backL : List Nat := Sw.sw boxL
theorem backL_len : backL.length = 256 := Sw.length_sw _

end Go.Proofs.YtonoidhlbnbhcaaDoor
