/-
  The contract of the laws' Few. Condition: the slices hold their extents.
-/
import Derived.Test.YtjeiechkndfhmaaExApart
namespace Go.Proofs.Ytjeiechkndfhmaa
open Go.RowKit Arr Ex

/-- A slice of extents, where it begins, its room. -/
structure Pe where
  A : Option Addr
  c : Nat
  l : List (Int × Int)
def FewE (l : List (Int × Int)) : Prop := l.length ≤ 20 ∧ ∀ x, x ∈ l → may x = true → x.1 + x.2 ≤ 200
/-- What Few leaves. -/
def FewP (ps : List Pe) (w : World) (en : Ending) (w' : World) : Prop := ∃ b : Bool, en = .returned (.bool b) ∧ (b = true ↔ ∀ p, p ∈ ps → FewE p.l) ∧ Below w.heap.size w w'
theorem few_not {ps : List Pe} {k : Nat} {p : Pe} (h : ps[k]? = some p) (hn : ¬ FewE p.l) : ¬ ∀ p, p ∈ ps → FewE p.l := fun hf => hn (hf p (List.mem_of_getElem? h))
set_option maxHeartbeats 4000000 in
theorem few_any (w : World) (gs N : Nat) (ps : List Pe) (hN : ps.length = N) (hN2 : N ≤ 1000) (hg : gs < w.heap.size) (hc : ∀ (i : Nat) (p : Pe), ps[i]? = some p → w.cell? ⟨gs, i, none⟩ = some (.slice p.A p.l.length p.c))
    (hx : ∀ p, p ∈ ps → Exts w w.heap.size p.A p.l) :
    Calls Try.prog 7 #[.slice (some ⟨gs, 0, none⟩) N N] w (FewP ps w) := by
  have HN := Lib.hid hN
  have HC := Lib.hid hc
  have HX := Lib.hid hx
  have HN2 := Lib.hid hN2
  clear hN hc hx
  go_enter Try.func7, Try.ntmps7
  go_wp2
  go_loopw [9] (fun i wr => ∃ k : Nat, k ≤ N ∧ i = .int .i64 k ∧ (∀ (j : Nat) (p : Pe), j < k → ps[j]? = some p → FewE p.l) ∧ Below w.heap.size w wr) (fun i _ => N - (intOf i).toNat)
  case atStart => exact ⟨0, Nat.zero_le _, rfl, fun _ _ h => by omega, Below.refl _ _⟩
  case round =>
    obtain ⟨k, hk, rfl, hall, hB⟩ := hrel
    have HALL := Lib.hid hall
    have HB := Lib.hid hB
    clear hall
    by_cases hlt : k < N
    · have hki : k < ps.length := by rw [HN.out]; exact hlt
      obtain ⟨⟨A, c, l⟩, hp⟩ : ∃ p, ps[k]? = some p := ⟨_, List.getElem?_eq_getElem hki⟩
      have q0 := (hB.cell (p := ⟨gs, k, none⟩) hg).trans (HC.out k _ hp)
      have HE := Lib.hid (show Exts w w.heap.size A l from HX.out _ (List.mem_of_getElem? hp))
      have HP := Lib.hid hp
      have t1 : decide ((k : Int) < (N : Int)) = true := by simp; omega
      have wk : IntKind.i64.wrap ((k : Int) + 1) = (k : Int) + 1 := by rw [IntKind.wrap_i64]; omega
      dsimp only at q0
      clear hp hB hki
      have HLL := Lib.hid (show l.length = l.length from rfl)
      generalize hm : l.length = m at q0 HLL
      have HM := Lib.hid hm
      clear hm HLL
      by_cases h20 : m ≤ 20
      · have t2 : decide ((m : Int) > 20) = false := by simp; omega
        go_wp2
        go_loopw [18] (fun i ws => ∃ (j : Nat) (Ws : World), Ws = ws ∧ j ≤ m ∧ i = .int .i64 j ∧ (∀ (i' : Nat) (x : Int × Int), i' < j → l[i']? = some x → may x = true → x.1 + x.2 ≤ 200) ∧ Below w.heap.size w ws) (fun i _ => m - (intOf i).toNat)
        case atStart => exact ⟨0, _, rfl, Nat.zero_le _, rfl, fun _ _ h => by omega, HB.out⟩
        case round =>
          obtain ⟨j, ws, rfl, hj, rfl, hall2, hB2⟩ := hrel
          have HALL2 := Lib.hid hall2
          have HB2 := Lib.hid hB2
          clear hall2
          by_cases hjm : j < m
          · have hji : j < l.length := by rw [HM.out]; exact hjm
            obtain ⟨b, off, x, y, rfl, hb, hxy, hi, r0, r1⟩ := (HE.out.below hB2).at hji
            have tj : decide ((j : Int) < (m : Int)) = true := by simp; omega
            have wj : IntKind.i64.wrap ((j : Int) + 1) = (j : Int) + 1 := by rw [IntKind.wrap_i64]; omega
            have HI := Lib.hid hi
            have HG := Lib.hid (show l[j]? = some (x, y) by rw [List.getElem?_eq_getElem hji, hxy])
            clear hi hxy hB2
            go_wp2_with fail
            refine (rmay_any _ x y HI.out).mono ?_
            rintro e w1 ⟨rfl, hb1⟩
            have HB3 := Lib.hid ((HB2.out.alloc HB2.out.size (.cells #[.int .i64 x, .int .i64 y] 34)).trans (hb1.mono (by have := HB2.out.size; simp; omega)))
            have hcx := hb1.cell (p := ⟨ws.heap.size, 0, none⟩) (by simp)
            have hcy := hb1.cell (p := ⟨ws.heap.size, 1, none⟩) (by simp)
            rw [World.cell?_alloc_new] at hcx hcy
            have d0 : w1.cell? ⟨ws.heap.size, 0, none⟩ = some (.int .i64 x) := hcx
            have d1 : w1.cell? ⟨ws.heap.size, 1, none⟩ = some (.int .i64 y) := hcy
            clear hcx hcy hb1 r0 r1
            by_cases hm : may (x, y) = true
            · rw [hm]
              have hmx := (may_iff _).1 hm
              dsimp only at hmx
              have wy : IntKind.i64.wrap (x + y) = x + y := wrap_in (by omega) (by omega)
              by_cases h200 : x + y ≤ 200
              · have t3 : decide (x + y > 200) = false := by simp; omega
                have HR := Lib.hid (show ∀ (i' : Nat) (z : Int × Int), i' < j + 1 → l[i']? = some z → may z = true → z.1 + z.2 ≤ 200 from fun i' z hi' hz hmz => by
                  by_cases e : i' = j
                  · subst e
                    have := HG.out.symm.trans hz
                    simp only [Option.some.injEq] at this
                    subst this; exact h200
                  · exact HALL2.out i' z (by omega) hz hmz)
                go_wp2
                go_roundw
                case rel => exact ⟨j + 1, _, rfl, by omega, by go_num, HR.out, HB3.out⟩
                case measure => simp [intOf]; omega
              · have t3 : decide (x + y > 200) = true := by simp; omega
                have HF := Lib.hid (few_not HP.out (fun hf => by have := hf.2 (x, y) (List.mem_of_getElem? HG.out) hm; dsimp only at this; omega))
                go_wp2
                go_ret
                exact ⟨false, rfl, ⟨(fun h => by cases h), fun h => absurd h HF.out⟩, HB3.out⟩
            · rw [Bool.not_eq_true] at hm
              rw [hm]
              have HR := Lib.hid (show ∀ (i' : Nat) (z : Int × Int), i' < j + 1 → l[i']? = some z → may z = true → z.1 + z.2 ≤ 200 from fun i' z hi' hz hmz => by
                by_cases e : i' = j
                · subst e
                  have := HG.out.symm.trans hz
                  simp only [Option.some.injEq] at this
                  subst this; rw [hm] at hmz; cases hmz
                · exact HALL2.out i' z (by omega) hz hmz)
              go_wp2
              go_roundw
              case rel => exact ⟨j + 1, _, rfl, by omega, by go_num, HR.out, HB3.out⟩
              case measure => simp [intOf]; omega
          · obtain rfl : j = m := by omega
            have tj : decide ((j : Int) < (j : Int)) = false := by simp
            have HR := Lib.hid (show ∀ (j' : Nat) (p : Pe), j' < k + 1 → ps[j']? = some p → FewE p.l from fun j' p hj' hp' => by
              by_cases e : j' = k
              · subst e
                have := HP.out.symm.trans hp'
                simp only [Option.some.injEq] at this
                subst this
                refine ⟨by dsimp only; have := HM.out; omega, fun x hx hmx => ?_⟩
                obtain ⟨q, hq, rfl⟩ := List.mem_iff_getElem.1 hx
                exact HALL2.out q _ (by have := HM.out; dsimp only at hq; omega) (List.getElem?_eq_getElem hq) hmx
              · exact HALL.out j' p (by omega) hp')
            clear hB2
            go_wp2
            go_roundw
            case rel => exact ⟨k + 1, by omega, by go_num, HR.out, HB2.out⟩
            case measure => simp [intOf]; omega
      · have t2 : decide ((m : Int) > 20) = true := by simp; omega
        have HF := Lib.hid (few_not HP.out (fun hf => by have := hf.1; have := HM.out; dsimp only at *; omega))
        go_wp2
        go_ret
        exact ⟨false, rfl, ⟨(fun h => by cases h), fun h => absurd h HF.out⟩, HB.out⟩
    · obtain rfl : k = N := by omega
      have t1 : decide ((k : Int) < (k : Int)) = false := by simp
      have HF := Lib.hid (show ∀ p, p ∈ ps → FewE p.l from fun p hp => by
        obtain ⟨j, hj, rfl⟩ := List.mem_iff_getElem.1 hp
        exact HALL.out j _ (by have := HN.out; omega) (List.getElem?_eq_getElem hj))
      clear hB
      go_wp2
      go_ret
      exact ⟨true, rfl, ⟨fun _ => HF.out, fun _ => rfl⟩, HB.out⟩
end Go.Proofs.Ytjeiechkndfhmaa
