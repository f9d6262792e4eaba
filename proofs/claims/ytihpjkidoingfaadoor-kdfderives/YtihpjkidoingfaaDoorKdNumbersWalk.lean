/-
  The law's example (awake), and the walk of KdfNumbers. Conditions: the tables stand in their variables.
-/
import Derived.Test.YtihpjkidoingfaaDoorKdDerive
import Derived.Test.YtihpjkidoingfaaDoorSame
import Derived.Test.YtihpjkidoingfaaDoorRefWord
namespace Go.Proofs.YtihpjkidoingfaaDoor
open Go.RowKit Arr Sh Hm Kd

theorem Parts.none' (w : World) (A : Option Addr) : Parts w w.heap.size A [] := ⟨fun h => absurd h (by simp), fun i h => absurd h (by simp)⟩
theorem awake_kdf (w : World) (hv : VarsS w) : Calls Tryd.prog 6 #[] w (True' w) := by
  have b1 := below_alloc w (.cells #[.int .u8 1] 5)
  have y1 : Bys (w.alloc (.cells #[.int .u8 1] 5)) (w.alloc (.cells #[.int .u8 1] 5)).heap.size (some ⟨w.heap.size, 0, none⟩) [1] := bys_of_holds (Holds.new w 5 .u8 [1]) (fun x hx => by rw [List.mem_singleton.1 hx]; omega)
  have C : Go.RowKit.Hid (Calls Tryd.prog 8 #[.slice (some ⟨w.heap.size, 0, none⟩) 1 1, .string ⟨#[97]⟩, .int .i64 40, .slice none 0 0] (w.alloc (.cells #[.int .u8 1] 5)) (DeriveSome (der [1] (labOf ⟨#[97]⟩) [] 40) 40 (w.alloc (.cells #[.int .u8 1] 5)))) :=
    Lib.hid (derive_some [1] (some ⟨w.heap.size, 0, none⟩) 1 1 rfl (Nat.le_refl _) (by omega) ⟨#[97]⟩ 40 (by decide) [] none 0 0 rfl (by omega) (fun i h => absurd h (by simp)) (by show 1 + 0 + 100 < _; omega) _ y1 (Parts.none' _ _) (hv.below b1 (Nat.le_refl _)))
  have B1 := Lib.hid b1
  clear b1 y1 hv
  generalize der [1] (labOf ⟨#[97]⟩) [] 40 = dl at *
  go_enter Tryd.func6, Tryd.ntmps6
  go_wp2_with fail
  generalize w.alloc (.cells #[.int .u8 1] 5) = w1 at *
  refine C.out.mono ?_
  rintro e w2 ⟨g, rfl, hg, hH, hB⟩
  have X := Lib.hid (B1.out.trans (hB.mono B1.out.size))
  clear hg hH hB C B1
  go_wp2
  go_ret
  exact ⟨rfl, X.out⟩

theorem numbers_walk (a : Int) (w : World) (hv : VarsS w) (_ : (Lit.int .i64 a).wf = true) : Calls Tryd.prog 4 #[.int .i64 a] w (True' w) := by
  have HA := Lib.hid (awake_kdf w hv)
  have HV := Lib.hid hv
  clear hv
  by_cases h0 : a < 0
  · have t0 : decide (a < 0) = true := decide_eq_true h0
    have HN : Go.RowKit.Hid (∀ W, Below w.heap.size w W → Calls Tryd.prog 12 #[.int .i64 a] W (fun e w' => e = .returned (.slice none 0 0) ∧ W = w')) := Lib.hid (fun W hB => number_none a (.inl h0) W (HV.out.below hB (Nat.le_refl _)).vars.tab)
    clear h0 HV
    go_enter Tryd.func4, Tryd.ntmps4
    go_wp2_with fail
    refine HA.out.mono ?_
    rintro e w1 ⟨rfl, hB⟩
    have HB := Lib.hid hB
    clear hB HA
    go_wp2_with fail
    refine (HN.out w1 HB.out).mono ?_
    rintro e w2 ⟨rfl, rfl⟩
    go_wp2
    go_ret
    exact ⟨rfl, HB.out⟩
  · have t0 : decide (a < 0) = false := decide_eq_false h0
    by_cases h1 : 4611686018427387904 < a
    · have t1 : decide (4611686018427387904 < a) = true := decide_eq_true h1
      have t2 : decide (a > 4611686018427387904) = true := decide_eq_true h1
      have HN : Go.RowKit.Hid (∀ W, Below w.heap.size w W → Calls Tryd.prog 12 #[.int .i64 a] W (fun e w' => e = .returned (.slice none 0 0) ∧ W = w')) := Lib.hid (fun W hB => number_none a (.inr h1) W (HV.out.below hB (Nat.le_refl _)).vars.tab)
      clear h0 h1 HV
      go_enter Tryd.func4, Tryd.ntmps4
      go_wp2_with fail
      refine HA.out.mono ?_
      rintro e w1 ⟨rfl, hB⟩
      have HB := Lib.hid hB
      clear hB HA
      go_wp2_with fail
      refine (HN.out w1 HB.out).mono ?_
      rintro e w2 ⟨rfl, rfl⟩
      go_wp2
      go_ret
      exact ⟨rfl, HB.out⟩
    · obtain ⟨m, rfl⟩ := Int.eq_ofNat_of_zero_le (show 0 ≤ a by omega)
      have hm : m ≤ 4611686018427387904 := by omega
      have t1 : decide (4611686018427387904 < (m : Int)) = false := decide_eq_false h1
      have t2 : decide ((m : Int) > 4611686018427387904) = false := decide_eq_false h1
      have wm : IntKind.u64.wrap (m : Int) = (m : Int) := by rw [IntKind.wrap_u64]; omega
      clear h0 h1
      go_enter Tryd.func4, Tryd.ntmps4
      go_wp2_with fail
      refine HA.out.mono ?_
      rintro e w1 ⟨rfl, hB⟩
      have HB := Lib.hid hB
      clear hB HA
      go_wp2_with fail
      refine (number_any m hm w1 (HV.out.below HB.out (Nat.le_refl _)).vars.tab).mono ?_
      rintro e w2 ⟨arr, hla, rfl, hw2⟩
      have hY := hla.bys w1
      rw [← hw2] at hY
      have hB2 : Below w1.heap.size w1 w2 := by rw [hw2]; exact below_alloc _ _
      have hs2 : w2.heap.size = w1.heap.size + 1 := by rw [hw2, World.size_alloc]
      rw [← hs2] at hY
      have HY := Lib.hid hY
      have HB2 := Lib.hid (HB.out.trans (hB2.mono HB.out.size))
      clear hY hB2 hs2 hw2 hla
      go_wp2_with fail
      refine (rput64_any m (by omega) w2).mono ?_
      rintro e w3 ⟨A3, c3, rfl, hY3, hB3⟩
      have HY3 := Lib.hid hY3
      have HY2 := Lib.hid (HY.out.later hB3)
      have HB3 := Lib.hid (HB2.out.trans (hB3.mono HB2.out.size))
      have l8 := Lib.hid (length_bytesOf m 8)
      rw [l8.out]
      clear hY3 hB3 HY HB2
      go_wp2_with fail
      refine (same_any (some ⟨w1.heap.size, 0, none⟩) A3 (bytesOf m 8) (bytesOf m 8) 8 8 8 c3 w3 l8.out l8.out (by omega) _ _ HY2.out HY3.out).mono ?_
      rintro e w4 ⟨k, rfl, rfl⟩
      have e1 : decide (bytesOf m 8 = bytesOf m 8) = true := decide_eq_true rfl
      rw [e1]
      go_wp2
      go_ret
      exact ⟨rfl, below_drewN HB3.out k⟩
end Go.Proofs.YtihpjkidoingfaaDoor
