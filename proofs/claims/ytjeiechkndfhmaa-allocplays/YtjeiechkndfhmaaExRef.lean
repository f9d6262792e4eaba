/-
  Contracts of the reference's Right and Chain. Condition: the slice holds the extents.
-/
import Derived.Test.YtjeiechkndfhmaaExApart
import Derived.Deep.QuietTactic
import Derived.BigQuiet
namespace Go.Proofs.Ytjeiechkndfhmaa
open Go.RowKit Arr Ex

set_option maxHeartbeats 2000000 in
theorem rright_any (w : World) (A : Option Addr) (c N : Nat) (l : List (Int × Int)) (hN : l.length = N) (h : Exts w w.heap.size A l) (hs : N ≤ 1000000) :
    Calls Try.prog 21 #[.slice A N c] w (Bel (.bool (right l)) w) := by
  have HE := Lib.hid h
  have HN := Lib.hid hN
  have HS := Lib.hid hs
  clear h hN hs
  have mixed : Try.prog.follows .mixedOrders = true := by kernel_rfl
  go_enter Try.func21, Try.ntmps21
  go_wp2
  go_loopw [3] (fun i wr => ∃ (k : Nat) (z : Int), k ≤ N ∧ i = .int .i64 k ∧ right l = apart 1 z (l.drop k) ∧ (k = 0 → z = 0) ∧ (∀ x y : Int, 0 < k → l[k - 1]? = some (x, y) → may (x, y) = true ∧ z = x + y + 1) ∧ Below w.heap.size w wr) (fun i _ => N - (intOf i).toNat)
  case atStart => exact ⟨0, 0, Nat.zero_le _, rfl, rfl, fun _ => rfl, fun _ _ h => by omega, Below.refl _ _⟩
  case round =>
    obtain ⟨k, z, hk, rfl, hap, hz0, hz1, hB⟩ := hrel
    have HB := Lib.hid hB
    have HAP := Lib.hid hap
    have HZ0 := Lib.hid hz0
    have HZ1 := Lib.hid hz1
    clear hz0 hz1
    by_cases hlt : k < N
    · have hki : k < l.length := by rw [HN.out]; exact hlt
      obtain ⟨b, off, x, y, rfl, hb, hxy, hi, q0, q1⟩ := (HE.out.below hB).at hki
      have hst := drop_cons hki
      rw [hxy] at hst
      rw [hst] at hap
      have hget : l[k]? = some (x, y) := by rw [List.getElem?_eq_getElem hki, hxy]
      have HGET := Lib.hid hget
      have t1 : decide ((k : Int) < (N : Int)) = true := by simp; omega
      have wk : IntKind.i64.wrap ((k : Int) + 1) = (k : Int) + 1 := by have := HS.out; rw [IntKind.wrap_i64]; omega
      have HI := Lib.hid hi
      have HAX := Lib.hid hap
      have HC := Lib.hid (show ∀ k', k' < l.length → ∃ x' y', l[k']? = some (x', y') ∧ wr.cell? ⟨b, off + k' * 2, none⟩ = some (.int .i64 x') ∧ wr.cell? ⟨b, off + k' * 2 + 1, none⟩ = some (.int .i64 y') from fun k' hk' => by
        obtain ⟨b', off', x', y', e, _, h1, _, h2, h3⟩ := (HE.out.below hB).at hk'
        simp only [Option.some.injEq, Addr.mk.injEq, and_true] at e
        obtain ⟨rfl, rfl⟩ := e
        exact ⟨x', y', by rw [List.getElem?_eq_getElem hk', h1], h2, h3⟩)
      have HW := HB.out.size
      clear hst hi hap hB HAP hget
      go_wp2_with fail
      refine (rmay_any _ x y HI.out).mono ?_
      rintro e w1 ⟨rfl, hb1⟩
      have HB1 := Lib.hid (HB.out.trans (hb1.mono HB.out.size))
      have d0 := (hb1.cell (p := ⟨b, off + k * 2, none⟩) (by show b < wr.heap.size; omega)).trans q0
      have HB2 := Lib.hid hb1
      clear hb1 q0 q1
      by_cases hm : may (x, y) = true
      · rw [hm]
        have hmx := (may_iff _).1 hm
        dsimp only at hmx
        rcases Nat.eq_zero_or_pos k with hk0 | hk0
        · subst hk0
          have hz := HZ0.out rfl
          have t3 : decide (((0 : Nat) : Int) > 0) = false := by simp
          have HR := Lib.hid (show right l = apart 1 (x + y + 1) (l.drop 1) by rw [HAX.out, apart_step, hm, hz]; simp [hmx.1])
          clear HAX hz
          go_wp2_with fail
          go_quiet (fail)
          go_wp2
          go_roundw
          case rel =>
            refine ⟨1, x + y + 1, by omega, by go_num, HR.out, by omega, fun x' y' _ hx' => ?_, below_drewN HB1.out _⟩
            have := HGET.out.symm.trans hx'
            simp only [Option.some.injEq, Prod.mk.injEq] at this
            obtain ⟨rfl, rfl⟩ := this
            exact ⟨hm, rfl⟩
          case measure => simp [intOf]; omega
        · obtain ⟨x', y', hp, p0, p1⟩ := HC.out (k - 1) (by omega)
          obtain ⟨hm', hz⟩ := HZ1.out x' y' hk0 hp
          have hmx' := (may_iff _).1 hm'
          dsimp only at hmx'
          have t3 : decide ((k : Int) > 0) = true := by simp; omega
          have d1 := (HB2.out.cell (p := ⟨b, off + (k - 1) * 2, none⟩) (by show b < wr.heap.size; omega)).trans p0
          have d2 := (HB2.out.cell (p := ⟨b, off + (k - 1) * 2 + 1, none⟩) (by show b < wr.heap.size; omega)).trans p1
          have wk1 : IntKind.i64.wrap ((k : Int) - 1) = ((k - 1 : Nat) : Int) := by have := HS.out; rw [IntKind.wrap_i64]; omega
          have wk2 : IntKind.i64.wrap (x' + y') = x' + y' := wrap_in (by omega) (by omega)
          have hk1 : k - 1 < N := by omega
          generalize hkp : k - 1 = kp at *
          clear p0 p1 hp HZ1 HZ0
          by_cases hzx : z ≤ x
          · have t2 : decide (x' + y' ≥ x) = false := by simp; omega
            have HR := Lib.hid (show right l = apart 1 (x + y + 1) (l.drop (k + 1)) by rw [HAX.out, apart_step, hm]; simp [hzx])
            clear HAX
            go_wp2_with fail
            go_quiet (fail)
            go_wp2
            go_roundw
            case rel =>
              refine ⟨k + 1, x + y + 1, by omega, by go_num, HR.out, by omega, fun x' y' _ hx' => ?_, below_drewN HB1.out _⟩
              have := HGET.out.symm.trans hx'
              simp only [Option.some.injEq, Prod.mk.injEq] at this
              obtain ⟨rfl, rfl⟩ := this
              exact ⟨hm, rfl⟩
            case measure => simp [intOf]; omega
          · have t2 : decide (x' + y' ≥ x) = true := by simp; omega
            have HR := Lib.hid (show right l = false by rw [HAX.out, apart_step]; simp [hzx])
            go_wp2_with fail
            go_quiet (fail)
            go_wp2
            go_ret
            exact ⟨by rw [HR.out]; rfl, below_drewN HB1.out _⟩
      · rw [Bool.not_eq_true] at hm
        rw [hm]
        have HR := Lib.hid (show right l = false by rw [HAX.out, apart_step, hm]; simp)
        go_wp2
        go_ret
        exact ⟨by rw [HR.out]; rfl, HB1.out⟩
    · obtain rfl : k = N := by omega
      have t1 : decide ((k : Int) < (k : Int)) = false := by simp
      have HR := Lib.hid (show right l = true by rw [HAP.out, List.drop_of_length_le (by rw [HN.out]; exact Nat.le_refl _)]; rfl)
      clear hap hB
      go_wp2
      go_ret
      exact ⟨by rw [HR.out]; rfl, HB.out⟩

/-- Told by places. -/
theorem chn_of {l : List (Int × Int)} (h1 : ∀ (j : Nat) (x : Int × Int), l[j]? = some x → may x = true) (h2 : ∀ (i j : Nat) (x y : Int × Int), i < j → l[i]? = some x → l[j]? = some y → Dis x y) : chain l = true := by
  rw [chain_iff]
  refine ⟨fun x hx => ?_, List.pairwise_iff_getElem.2 fun i j hi hj hij => ?_⟩
  · obtain ⟨j, hj, rfl⟩ := List.mem_iff_getElem.1 hx
    exact h1 j _ (List.getElem?_eq_getElem hj)
  · exact h2 i j _ _ hij (List.getElem?_eq_getElem hi) (List.getElem?_eq_getElem hj)
theorem not_chain_may {l : List (Int × Int)} {j : Nat} {x : Int × Int} (h : l[j]? = some x) (hm : may x = false) : chain l = false := by
  rw [Bool.eq_false_iff]
  intro hc
  have := ((chain_iff l).1 hc).1 x (List.mem_of_getElem? h)
  rw [hm] at this; cases this
theorem not_chain_dis {l : List (Int × Int)} {i j : Nat} {x y : Int × Int} (hij : i < j) (h : l[i]? = some x) (h' : l[j]? = some y) (hd : ¬ Dis x y) : chain l = false := by
  rw [Bool.eq_false_iff]
  intro hc
  have := List.pairwise_iff_getElem.1 ((chain_iff l).1 hc).2
  obtain ⟨hi, rfl⟩ := List.getElem?_eq_some_iff.1 h
  obtain ⟨hj, rfl⟩ := List.getElem?_eq_some_iff.1 h'
  exact hd (this i j hi hj hij)
/-- Of the first k: each may be, and no two have a sector in common; and of the k-th with the first j. -/
def Upto (l : List (Int × Int)) (k : Nat) : Prop := (∀ j x, j < k → l[j]? = some x → may x = true) ∧ ∀ i j x y, i < j → j < k → l[i]? = some x → l[j]? = some y → Dis x y
set_option maxHeartbeats 4000000 in
theorem rchain_any (w : World) (A : Option Addr) (c N : Nat) (l : List (Int × Int)) (hN : l.length = N) (h : Exts w w.heap.size A l) (hs : N ≤ 1000000) :
    Calls Try.prog 16 #[.slice A N c] w (Bel (.bool (chain l)) w) := by
  have HE := Lib.hid h
  have HN := Lib.hid hN
  have HS := Lib.hid hs
  clear h hN hs
  have mixed : Try.prog.follows .mixedOrders = true := by kernel_rfl
  go_enter Try.func16, Try.ntmps16
  go_wp2
  go_loopw [3] (fun i wr => ∃ (k : Nat), k ≤ N ∧ i = .int .i64 k ∧ Upto l k ∧ Below w.heap.size w wr) (fun i _ => N - (intOf i).toNat)
  case atStart => exact ⟨0, Nat.zero_le _, rfl, ⟨fun _ _ h => by omega, fun _ _ _ _ _ h => by omega⟩, Below.refl _ _⟩
  case round =>
    obtain ⟨k, hk, rfl, hup, hB⟩ := hrel
    have HB := Lib.hid hB
    have HUP := Lib.hid hup
    clear hup
    by_cases hlt : k < N
    · have hki : k < l.length := by rw [HN.out]; exact hlt
      obtain ⟨b, off, x, y, rfl, hb, hxy, hi, q0, q1⟩ := (HE.out.below hB).at hki
      have hget : l[k]? = some (x, y) := by rw [List.getElem?_eq_getElem hki, hxy]
      have HGET := Lib.hid hget
      have t1 : decide ((k : Int) < (N : Int)) = true := by simp; omega
      have wk : IntKind.i64.wrap ((k : Int) + 1) = (k : Int) + 1 := by have := HS.out; rw [IntKind.wrap_i64]; omega
      have HI := Lib.hid hi
      have HC := Lib.hid (show ∀ k', k' < l.length → ∃ x' y', l[k']? = some (x', y') ∧ wr.cell? ⟨b, off + k' * 2, none⟩ = some (.int .i64 x') ∧ wr.cell? ⟨b, off + k' * 2 + 1, none⟩ = some (.int .i64 y') from fun k' hk' => by
        obtain ⟨b', off', x', y', e, _, h1, _, h2, h3⟩ := (HE.out.below hB).at hk'
        simp only [Option.some.injEq, Addr.mk.injEq, and_true] at e
        obtain ⟨rfl, rfl⟩ := e
        exact ⟨x', y', by rw [List.getElem?_eq_getElem hk', h1], h2, h3⟩)
      have HW := HB.out.size
      clear hi hB hget
      go_wp2_with fail
      refine (rmay_any _ x y HI.out).mono ?_
      rintro e w1 ⟨rfl, hb1⟩
      have HB1 := Lib.hid (HB.out.trans (hb1.mono HB.out.size))
      have HB2 := Lib.hid hb1
      clear hb1 q0 q1
      by_cases hm : may (x, y) = true
      · rw [hm]
        have hmx := (may_iff _).1 hm
        dsimp only at hmx
        have wk0 : IntKind.i64.wrap (x + y) = x + y := wrap_in (by omega) (by omega)
        obtain ⟨x0, y0, hg0, p0, p1⟩ := HC.out k hki
        obtain ⟨rfl, rfl⟩ : x = x0 ∧ y = y0 := by have := HGET.out.symm.trans hg0; simp only [Option.some.injEq, Prod.mk.injEq] at this; exact this
        have D0 := Lib.hid ((HB2.out.cell (p := ⟨b, off + k * 2, none⟩) (by show b < wr.heap.size; omega)).trans p0)
        have D1 := Lib.hid ((HB2.out.cell (p := ⟨b, off + k * 2 + 1, none⟩) (by show b < wr.heap.size; omega)).trans p1)
        clear p0 p1 hg0
        go_wp2
        go_loopw [4] (fun i ws => ∃ (j n : Nat), j ≤ k ∧ i = .int .i64 j ∧ (∀ i' x', i' < j → l[i']? = some x' → Dis x' (x, y)) ∧ ws = w1.drewN n) (fun i _ => k - (intOf i).toNat)
        case atStart => exact ⟨0, 0, Nat.zero_le _, rfl, fun _ _ h => by omega, rfl⟩
        case round =>
          obtain ⟨j, n, hj, rfl, hdis, rfl⟩ := hrel
          have HD := Lib.hid hdis
          clear hdis
          by_cases hjk : j < k
          · have tj : decide ((j : Int) < (k : Int)) = true := by simp; omega
            have wj : IntKind.i64.wrap ((j : Int) + 1) = (j : Int) + 1 := by have := HS.out; rw [IntKind.wrap_i64]; omega
            obtain ⟨x', y', hp, p0, p1⟩ := HC.out j (by omega)
            have hm' := HUP.out.1 j _ hjk hp
            have hmx' := (may_iff _).1 hm'
            dsimp only at hmx'
            have HP := Lib.hid hp
            have wk2 : IntKind.i64.wrap (x' + y') = x' + y' := wrap_in (by omega) (by omega)
            have hjn : j < N := by omega
            have e0 : (w1.drewN n).cell? ⟨b, off + k * 2, none⟩ = some (.int .i64 x) := D0.out
            have e1 : (w1.drewN n).cell? ⟨b, off + k * 2 + 1, none⟩ = some (.int .i64 y) := D1.out
            have e2 : (w1.drewN n).cell? ⟨b, off + j * 2, none⟩ = some (.int .i64 x') := (HB2.out.cell (p := ⟨b, off + j * 2, none⟩) (by show b < wr.heap.size; omega)).trans p0
            have e3 : (w1.drewN n).cell? ⟨b, off + j * 2 + 1, none⟩ = some (.int .i64 y') := (HB2.out.cell (p := ⟨b, off + j * 2 + 1, none⟩) (by show b < wr.heap.size; omega)).trans p1
            clear hp p0 p1
            have HBN := Lib.hid (below_drewN HB1.out n)
            have HEQ := Lib.hid (show w1.drewN n = w1.drewN n from rfl)
            generalize hwn : w1.drewN n = wn at e0 e1 e2 e3 HBN HEQ ⊢
            have HWN := Lib.hid hwn
            clear hwn HEQ
            by_cases c0 : x < x' + y'
            · have t2 : decide (x < x' + y') = true := by simp; exact c0
              by_cases c1 : x' < x + y
              · have t3 : decide (x' < x + y) = true := by simp; exact c1
                have HR := Lib.hid (not_chain_dis hjk HP.out HGET.out (by unfold Dis; dsimp only; omega))
                go_wp2_with fail
                go_quiet (fail)
                go_wp2
                go_ret
                exact ⟨by rw [HR.out]; rfl, below_drewN HBN.out _⟩
              · have t3 : decide (x' < x + y) = false := by simp; omega
                go_wp2_with fail
                go_quiet (fail)
                go_wp2
                go_roundw
                case rel =>
                  refine ⟨j + 1, n + nq, by omega, by go_num, fun i' z hi' hz => ?_, by rw [← HWN.out, World.drewN_drewN]⟩
                  by_cases e : i' = j
                  · subst e
                    have := HP.out.symm.trans hz
                    simp only [Option.some.injEq] at this
                    subst this
                    unfold Dis; dsimp only; omega
                  · exact HD.out i' z (by omega) hz
                case measure => simp [intOf]; omega
            · have t2 : decide (x < x' + y') = false := by simp; omega
              go_wp2_with fail
              go_quiet (fail)
              go_wp2
              go_roundw
              case rel =>
                refine ⟨j + 1, n + nq, by omega, by go_num, fun i' z hi' hz => ?_, by rw [← HWN.out, World.drewN_drewN]⟩
                by_cases e : i' = j
                · subst e
                  have := HP.out.symm.trans hz
                  simp only [Option.some.injEq] at this
                  subst this
                  unfold Dis; dsimp only; omega
                · exact HD.out i' z (by omega) hz
              case measure => simp [intOf]; omega
          · obtain rfl : j = k := by omega
            have tj : decide ((j : Int) < (j : Int)) = false := by simp
            have HR := Lib.hid (show Upto l (j + 1) from ⟨fun i' z hi' hz => by
              by_cases e : i' = j
              · subst e
                have := HGET.out.symm.trans hz
                simp only [Option.some.injEq] at this
                subst this; exact hm
              · exact HUP.out.1 i' z (by omega) hz, fun i' j' z z' h1 h2 hz hz' => by
              by_cases e : j' = j
              · subst e
                have := HGET.out.symm.trans hz'
                simp only [Option.some.injEq] at this
                subst this
                exact HD.out i' z h1 hz
              · exact HUP.out.2 i' j' z z' h1 (by omega) hz hz'⟩)
            go_wp2
            go_roundw
            case rel => exact ⟨j + 1, by omega, by go_num, HR.out, below_drewN HB1.out n⟩
            case measure => simp [intOf]; omega
      · rw [Bool.not_eq_true] at hm
        rw [hm]
        have HR := Lib.hid (not_chain_may HGET.out hm)
        go_wp2
        go_ret
        exact ⟨by rw [HR.out]; rfl, HB1.out⟩
    · obtain rfl : k = N := by omega
      have t1 : decide ((k : Int) < (k : Int)) = false := by simp
      have HR := Lib.hid (show chain l = true from chn_of (fun j x hx => HUP.out.1 j x (by have := (List.getElem?_eq_some_iff.1 hx).1; have := HN.out; omega) hx) (fun i j x y hij hx hy => HUP.out.2 i j x y hij (by have := (List.getElem?_eq_some_iff.1 hy).1; have := HN.out; omega) hx hy))
      clear hB
      go_wp2
      go_ret
      exact ⟨by rw [HR.out]; rfl, HB.out⟩
end Go.Proofs.Ytjeiechkndfhmaa
