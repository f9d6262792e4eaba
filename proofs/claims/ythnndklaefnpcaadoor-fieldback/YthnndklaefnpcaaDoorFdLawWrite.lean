/-
  The contract of the law's write: the items, by both writers. Conditions: the slice holds its items, which are few; the table of widths stands in its variable.
-/
import Derived.Test.YthnndklaefnpcaaDoorFdFew
namespace Go.Proofs.YthnndklaefnpcaaDoor
open Go.RowKit Arr Fld

set_option maxRecDepth 10000 in
set_option maxHeartbeats 2000000 in
theorem write_any (w : World) (A : Option Addr) (c N : Nat) (its : List It) (hN : its.length = N) (h : Items w w.heap.size A its) (hf : Few its) (ht : Tab w 0) :
    Calls Tryd.prog 7 #[.slice A N c] w (WriteP its w) := by
  have HI := Lib.hid h
  have HN := Lib.hid hN
  have HT := Lib.hid ht
  have HF := Lib.hid hf
  have h30 : N ≤ 30 := by have := hf.1; omega
  have hw1 : (w.alloc (.cells #[.int .i64 0, .pointer none, .int .i64 0] 51)).heap.size = w.heap.size + 1 := by simp
  have B0 : Go.RowKit.Hid (Both w w.heap.size (w.heap.size + 1) (wAll (its.take 0)) ((w.alloc (.cells #[.int .i64 0, .pointer none, .int .i64 0] 51)).alloc (.cells #[.slice none 0 0, .int .i64 0] 53))) := Lib.hid (by
    have e1 := (Wtr.new w).below (below_alloc (w.alloc (.cells #[.int .i64 0, .pointer none, .int .i64 0] 51)) (.cells #[.slice none 0 0, .int .i64 0] 53))
    have e2 := RWtr.new (w.alloc (.cells #[.int .i64 0, .pointer none, .int .i64 0] 51))
    rw [hw1] at e2
    exact ⟨⟨_, _, e1, e2, fun k h1 h2 => by omega⟩, Nat.le_refl _, by omega, ((Below.refl w.heap.size w).alloc (Nat.le_refl _) _).alloc (by rw [hw1]; omega) _⟩)
  clear h hN ht hf hw1
  go_enter Tryd.func7, Tryd.ntmps7
  go_wp2
  generalize (w.alloc (.cells #[.int .i64 0, .pointer none, .int .i64 0] 51)).alloc (.cells #[.slice none 0 0, .int .i64 0] 53) = w2 at *
  generalize hg2 : w.heap.size + 1 = g2 at *
  obtain ⟨g, hg⟩ : ∃ g, g = w.heap.size := ⟨_, rfl⟩
  rw [← hg] at B0
  simp only [← hg]
  clear hg hg2
  go_loopw [14] (fun i wr => ∃ k : Nat, k ≤ N ∧ i = .int .i64 k ∧ Both w g g2 (wAll (its.take k)) wr) (fun i _ => N - (intOf i).toNat)
  case atStart => exact ⟨0, Nat.zero_le _, rfl, B0.out⟩
  case round =>
    clear B0
    obtain ⟨k, hk, rfl, hB⟩ := hrel
    by_cases hlt : k < N
    · have hki : k < its.length := by rw [HN.out]; exact hlt
      obtain ⟨b, off, rfl, hb, hc⟩ := (HI.out.below hB.bel).cells (by omega)
      obtain ⟨q0, q1, q2, q3⟩ := hc k hki
      obtain ⟨e1, e2, e3⟩ := HI.out.each k hki
      have t1 : decide ((k : Int) < (N : Int)) = true := by simp; omega
      have wk : IntKind.i64.wrap ((k : Int) + 1) = (k : Int) + 1 := by rw [IntKind.wrap_i64]; omega
      have HL := Lib.hid (wAll_len HF.out k (Nat.le_of_lt hki))
      have HS := Lib.hid (wAll_succ its k hki)
      have HB := Lib.hid hB
      have hb100 := HF.out.2 k hki
      have E2 := Lib.hid e2
      have E3 := Lib.hid e3
      clear hc hB e1 e2 e3
      generalize its[k] = it at *
      obtain ⟨x0, x1, x2, ys, x3, x4⟩ := it
      simp only at q0 q1 q2 q3 hb100 E2 E3
      obtain ⟨L, hL⟩ : ∃ L, L = ys.length := ⟨_, rfl⟩
      have HYL := Lib.hid hL
      rw [← hL] at q3 hb100
      clear hL
      have BA := Lib.hid (HB.out.later (below_alloc wr (.cells #[.int .i64 x0, .int .i64 x1, .int .i64 x2, .slice x3 L x4] 44)))
      have CA := Lib.hid (Cell4.new wr x0 x1 x2 (.slice x3 L x4))
      obtain ⟨F, F2, V1, V2, VD⟩ := HB.out.both
      have nF : ¬ F wr.heap.size := fun hF => by have := (V1.lt _ hF).2; omega
      have V1 := V1.below (below_alloc wr (.cells #[.int .i64 x0, .int .i64 x1, .int .i64 x2, .slice x3 L x4] 44))
      have V2 := V2.below (below_alloc wr (.cells #[.int .i64 x0, .int .i64 x1, .int .i64 x2, .slice x3 L x4] 44))
      have VT := (HT.out.below BA.out.bel HT.out.lt)
      have X0 : Bys (wr.alloc (.cells #[.int .i64 x0, .int .i64 x1, .int .i64 x2, .slice x3 L x4] 44)) w.heap.size x3 ys := E3.out.below BA.out.bel
      have loF : ∀ k, F k → w.heap.size ≤ k := fun k hF => Nat.le_trans HB.out.lo (V1.lt k hF).1
      have loF2 : ∀ k, F2 k → w.heap.size ≤ k := fun k hF => Nat.le_trans HB.out.lo2 (V2.lt k hF).1
      have hsz := BA.out.bel.size
      have X1 : BysX (wr.alloc (.cells #[.int .i64 x0, .int .i64 x1, .int .i64 x2, .slice x3 L x4] 44)) F x3 ys := BysX.of X0 loF hsz
      have XW := Lib.hid (fun (w' : World) (hw : Below w.heap.size w w') => BysX.of (F := F2) (E3.out.below hw) loF2 hw.size)
      have LO := Lib.hid (And.intro HB.out.lo HB.out.lo2)
      clear X0 loF loF2 hsz
      have TF := Lib.hid (fun (w' : World) (hw : Below w.heap.size w w') => HT.out.below hw HT.out.lt)
      have QW := Lib.hid (And.intro V1 (And.intro V2 (And.intro VD (And.intro nF (And.intro VT X1)))))
      clear V1 V2 VD nF VT X1
      by_cases k1 : x0 = 1
      · subst k1
        have t3 : ((1 : Int) == 1) = true := rfl
        have FE : fieldOf ⟨1, x1, x2, ys, x3, x4⟩ = numF x1 x2 := by unfold fieldOf; rw [if_pos rfl]
        rw [FE] at HS
        have C1 := Lib.hid (let ⟨W1, W2, WD, wF, T1, X1⟩ := QW.out; wnumber_any W1 x1 x2 (by have := HL.out; have := hk; omega) T1)
        go_wp2_with fail
        refine C1.out.mono ?_
        rintro en w3 hw
        obtain ⟨rfl, ⟨F', U1, U2, UD⟩, hB3, c4, _⟩ := BA.out.first QW.out.1 QW.out.2.1 QW.out.2.2.1 CA.out QW.out.2.2.2.1 hw
        have XU := XW.out _ hB3
        have C2 := Lib.hid (vnumber_any U2 x1 x2 (by have := HL.out; omega))
        have HU := Lib.hid (And.intro hB3 (And.intro U1 (And.intro U2 UD)))
        obtain ⟨p0, p1, p2, p3⟩ := c4
        clear hw hB3 U1 U2 UD XU C1 BA CA QW
        go_wp2_with fail
        refine C2.out.mono ?_
        rintro en w4 hw4
        obtain ⟨rfl, hB4⟩ := Both.second LO.out.1 LO.out.2 HU.out.1 HU.out.2.1 HU.out.2.2.1 HU.out.2.2.2 hw4
        have HB4 := Lib.hid hB4
        clear hw4 hB4 HU C2 p0 p1 p2 p3
        go_wp2
        go_roundw
        case rel => exact ⟨k + 1, by omega, by go_num, by rw [HS.out]; exact HB4.out⟩
        case measure => simp [intOf]; omega
      · by_cases k2 : x0 = 2
        · subst k2
          have t3 : ((2 : Int) == 1) = false := rfl
          have t4 : ((2 : Int) == 2) = true := rfl
          have FE : fieldOf ⟨2, x1, x2, ys, x3, x4⟩ = bysF ys := by unfold fieldOf; rw [if_neg (show ¬ (2 : Int) = 1 by decide), if_pos rfl]
          rw [FE] at HS
          have C1 := Lib.hid (let ⟨W1, W2, WD, wF, T1, X1⟩ := QW.out; wbytes_any W1 x3 L x4 ys E2.out HYL.out.symm X1 (by have := HL.out; omega) T1)
          go_wp2_with fail
          refine C1.out.mono ?_
          rintro en w3 hw
          obtain ⟨rfl, ⟨F', U1, U2, UD⟩, hB3, c4, _⟩ := BA.out.first QW.out.1 QW.out.2.1 QW.out.2.2.1 CA.out QW.out.2.2.2.1 hw
          have XU := XW.out _ hB3
          have C2 := Lib.hid (vbytes_any U2 x3 L x4 ys E2.out HYL.out.symm XU (by omega) (by have := HL.out; omega))
          have HU := Lib.hid (And.intro hB3 (And.intro U1 (And.intro U2 UD)))
          obtain ⟨p0, p1, p2, p3⟩ := c4
          clear hw hB3 U1 U2 UD XU C1 BA CA QW
          go_wp2_with fail
          refine C2.out.mono ?_
          rintro en w4 hw4
          obtain ⟨rfl, hB4⟩ := Both.second LO.out.1 LO.out.2 HU.out.1 HU.out.2.1 HU.out.2.2.1 HU.out.2.2.2 hw4
          have HB4 := Lib.hid hB4
          clear hw4 hB4 HU C2 p0 p1 p2 p3
          go_wp2
          go_roundw
          case rel => exact ⟨k + 1, by omega, by go_num, by rw [HS.out]; exact HB4.out⟩
          case measure => simp [intOf]; omega
        · by_cases k3 : x0 = 3
          · subst k3
            have t3 : ((3 : Int) == 1) = false := rfl
            have t4 : ((3 : Int) == 2) = false := rfl
            have t5 : ((3 : Int) == 3) = true := rfl
            have FE : fieldOf ⟨3, x1, x2, ys, x3, x4⟩ = some ys := by unfold fieldOf; rw [if_neg (show ¬ (3 : Int) = 1 by decide), if_neg (show ¬ (3 : Int) = 2 by decide), if_pos rfl]
            rw [FE] at HS
            have C1 := Lib.hid (let ⟨W1, W2, WD, wF, T1, X1⟩ := QW.out; wfixed_any W1 x3 L x4 ys E2.out HYL.out.symm X1 (by have := HL.out; omega))
            go_wp2_with fail
            refine C1.out.mono ?_
            rintro en w3 hw
            obtain ⟨rfl, ⟨F', U1, U2, UD⟩, hB3, c4, _⟩ := BA.out.first QW.out.1 QW.out.2.1 QW.out.2.2.1 CA.out QW.out.2.2.2.1 hw
            have XU := XW.out _ hB3
            have C2 := Lib.hid (vfixed_any U2 x3 L x4 ys E2.out HYL.out.symm XU.bys (by have := HL.out; omega))
            have HU := Lib.hid (And.intro hB3 (And.intro U1 (And.intro U2 UD)))
            obtain ⟨p0, p1, p2, p3⟩ := c4
            clear hw hB3 U1 U2 UD XU C1 BA CA QW
            go_wp2_with fail
            refine C2.out.mono ?_
            rintro en w4 hw4
            obtain ⟨rfl, hB4⟩ := Both.second LO.out.1 LO.out.2 HU.out.1 HU.out.2.1 HU.out.2.2.1 HU.out.2.2.2 hw4
            have HB4 := Lib.hid hB4
            clear hw4 hB4 HU C2 p0 p1 p2 p3
            go_wp2
            go_roundw
            case rel => exact ⟨k + 1, by omega, by go_num, by rw [HS.out]; exact HB4.out⟩
            case measure => simp [intOf]; omega
          · have t3 : (x0 == 1) = false := by simp; omega
            have t4 : (x0 == 2) = false := by simp; omega
            have t5 : (x0 == 3) = false := by simp; omega
            have FE : fieldOf ⟨x0, x1, x2, ys, x3, x4⟩ = some [] := by unfold fieldOf; rw [if_neg k1, if_neg k2, if_neg k3]
            rw [FE, wput_nil] at HS
            clear QW CA
            go_wp2
            go_roundw
            case rel => exact ⟨k + 1, by omega, by go_num, by rw [HS.out]; exact BA.out⟩
            case measure => simp [intOf]; omega
    · obtain rfl : k = N := by omega
      have t1 : decide ((k : Int) < (k : Int)) = false := by simp
      have HP := Lib.hid (show WriteP its w (.returned (.tuple #[.pointer (some ⟨g, 0, none⟩), .pointer (some ⟨g2, 0, none⟩)])) wr from by
        rw [List.take_of_length_le (by rw [HN.out]; exact Nat.le_refl _)] at hB
        obtain ⟨F, F2, h1, h2, h3⟩ := hB.both
        exact ⟨g, g2, F, F2, rfl, h1, h2, hB.lo, hB.lo2, h3, hB.bel⟩)
      clear hB
      go_wp2
      go_ret2
      exact HP.out
end Go.Proofs.YthnndklaefnpcaaDoor
