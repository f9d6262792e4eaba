/-
  Contract of the reference's root. Conditions: k is 2 or 3, p is small.
-/
import Derived.Test.YtjcpnephgbehmaaDoorRootAbove
namespace Go.Proofs.YtjcpnephgbehmaaDoor
open Go.RowKit Arr Sh Ro

theorem rootGo_succ (p k j n : Nat) : rootGo p k (j + 1) n = rootGo p k j (if aboveL (powL (dig (n + 2 ^ j)) (k - 1)) p (2 * k) = true then n else n + 2 ^ j) := rfl

set_option maxHeartbeats 2000000 in
set_option maxRecDepth 10000 in
theorem root_any (p k : Nat) (hk : 2 ≤ k) (hk3 : k ≤ 3) (w : World) :
    Calls Tryd.prog 23 #[.int .i64 (p : Int), .int .i64 (k : Int)] w fun e w' => e = .returned (.int .u32 ((Ro.root p k : Nat) : Int)) ∧ Below w.heap.size w w' := by
  have HR : Go.RowKit.Hid (Ro.root p k = rootGo p k 37 0 % 4294967296) := Lib.hid rfl
  have HRL := Lib.hid (rootGo_lt p k 37 0 (by decide))
  obtain ⟨RR, eRR⟩ : ∃ R, R = rootGo p k 37 0 := ⟨_, rfl⟩
  rw [← eRR] at HR HRL
  have HRR := Lib.hid eRR.symm
  clear eRR
  go_enter Tryd.func23, Tryd.ntmps23
  go_wp2_with fail
  go_loopw [5, 6] (fun nv bv wr => ∃ (j n b : Nat), j ≤ 37 ∧ nv = .int .i64 (n : Nat) ∧ bv = .int .i64 (b : Nat) ∧ Go.RowKit.Hid (b = 2 ^ j / 2) ∧ Go.RowKit.Hid (n + 2 ^ j ≤ 137438953472) ∧ Go.RowKit.Hid (rootGo p k j n = RR) ∧ Below w.heap.size w wr) (fun _ bv _ => (intOf bv).toNat)
  case atStart => exact ⟨37, 0, 68719476736, by omega, rfl, rfl, Lib.hid (by decide), Lib.hid (by decide), HRR, Below.refl _ _⟩
  case round =>
    clear HRR
    obtain ⟨j, n, b, hj, rfl, rfl, HBj, HNj, HG, hbel⟩ := hrel
    have HBl := Lib.hid hbel
    clear hbel
    generalize wr = wo at *
    by_cases hj0 : 0 < j
    · obtain ⟨i, rfl⟩ : ∃ i, j = i + 1 := ⟨j - 1, by omega⟩
      have hb : b = 2 ^ i := by rw [HBj.out, Nat.pow_succ]; omega
      have h2 : 2 ^ (i + 1) = 2 ^ i + 2 ^ i := by rw [Nat.pow_succ]; omega
      have hpos := Nat.two_pow_pos i
      have hn := HNj.out
      rw [h2, ← hb] at hn
      rw [← hb] at hpos
      have hg := HG.out
      rw [rootGo_succ, ← hb] at hg
      obtain ⟨m, em⟩ : ∃ m, m = n + b := ⟨_, rfl⟩
      rw [← em] at hg
      have e1 : (n : Int) + (b : Int) = (m : Int) := by omega
      have hm : m < 281474976710656 := by omega
      have t1 : decide ((b : Int) > 0) = true := by simp; omega
      have t1' : decide (0 < (b : Int)) = true := by simp; omega
      have eh : (b : Int) / 2 = ((b / 2 : Nat) : Int) := by omega
      have HB2 : Go.RowKit.Hid (b / 2 = 2 ^ i / 2) := Lib.hid (by rw [hb])
      have HN1 : Go.RowKit.Hid (n + 2 ^ i ≤ 137438953472) := Lib.hid (by rw [← hb]; omega)
      have HN2 : Go.RowKit.Hid (m + 2 ^ i ≤ 137438953472) := Lib.hid (by rw [← hb]; omega)
      have HGH := Lib.hid hg
      have hb2 : b / 2 < b := by omega
      generalize b / 2 = bh at *
      obtain ⟨d0, ed0⟩ : ∃ d, d = m % 65536 := ⟨_, rfl⟩
      obtain ⟨d1, ed1⟩ : ∃ d, d = m / 65536 % 65536 := ⟨_, rfl⟩
      obtain ⟨d2, ed2⟩ : ∃ d, d = m / 4294967296 := ⟨_, rfl⟩
      have f0 : (m : Int) % 65536 = (d0 : Int) := by omega
      have f1 : (m : Int) / 65536 % 65536 = (d1 : Int) := by omega
      have f2 : (m : Int) / 4294967296 = (d2 : Int) := by omega
      have eD : dig m = [d0, d1, d2] := by rw [dig, ← ed0, ← ed1, ← ed2]
      have HPW := Lib.hid (powL_ok m hm)
      have HDG := Lib.hid (dig_ok m hm)
      have NW := Lib.hid (Holds.new wo 3 .i64 [d0, d1, d2])
      have BW := Lib.hid (HBl.out.alloc HBl.out.size (.cells (na .i64 [d0, d1, d2]) 3))
      have eN : (.cells (na .i64 [d0, d1, d2]) 3 : Obj) = .cells #[.int .i64 (d0 : Int), .int .i64 (d1 : Int), .int .i64 (d2 : Int)] 3 := rfl
      rw [eN] at NW BW
      rw [← eD] at NW
      have HP0 : Go.RowKit.Hid (powL (dig m) 0 = dig m) := Lib.hid rfl
      have LD : (dig m).length = 3 := rfl
      have hsz := HBl.out.size
      clear hg hb h2 hn HBj HNj HG em ed0 ed1 ed2 eN eD HBl hj0
      generalize hdm : dig m = D at *
      clear hdm
      go_wp2_with fail
      generalize wo.alloc (.cells #[.int .i64 (d0 : Int), .int .i64 (d1 : Int), .int .i64 (d2 : Int)] 3) = w1 at *
      have hw1 : wo.heap.size < w1.heap.size := NW.out.lt (by omega)
      rw [f0, f1]
      have hbb : b < 281474976710656 := by omega
      clear f0 f1 f2 e1
      go_loopw [9, 10] (fun xv iv wx => ∃ (q gx cx : Nat), 1 ≤ q ∧ q ≤ k ∧ iv = .int .i64 (q : Nat) ∧ xv = .slice (some ⟨gx, 0, none⟩) (3 * q) cx ∧ TabI wx gx (powL D (q - 1)) ∧ Below w1.heap.size w1 wx) (fun _ iv _ => k - (intOf iv).toNat)
      case atStart => exact ⟨1, wo.heap.size, 3, by omega, by omega, rfl, rfl, by rw [HP0.out]; exact tabI_of NW.out, Below.refl _ _⟩
      case round =>
        obtain ⟨q, gx, cx, hq1, hq2, rfl, rfl, hT, hB⟩ := hrel
        have HTx := Lib.hid hT
        have HBx := Lib.hid hB
        clear hT hB
        obtain ⟨r, er⟩ : ∃ r, r = q - 1 := ⟨_, rfl⟩
        rw [← er] at HTx
        have hpo := HPW.out r
        have hlr : (powL D r).length = 3 * q := by rw [hpo.2]; omega
        by_cases hlt : q < k
        · have t2 : decide ((q : Int) < (k : Int)) = true := by simp; omega
          have C1 := times5_any (powL D r) D hpo.1 HDG.out (3 * q) 3 hlr LD (by omega) (by omega) (by omega) (by omega) gx wo.heap.size cx 3 wr HTx.out ((tabI_of NW.out).below HBx.out hw1)
          have eP : timesL (powL D r) D = powL D (r + 1) := rfl
          rw [eP] at C1
          have hl2 := (HPW.out (r + 1)).2
          rw [show r + 1 = q by omega] at C1 hl2
          have C2 := Lib.hid C1
          have HL2 : Go.RowKit.Hid ((powL D q).length = 3 * (q + 1)) := Lib.hid hl2
          clear C1 eP hpo hl2 hlr er
          have HPQ : Go.RowKit.Hid (powL D (q + 1 - 1) = powL D q) := Lib.hid (by rw [Nat.add_sub_cancel])
          go_wp2_with fail
          refine C2.out.mono ?_
          rintro e w5 ⟨g5, c5, rfl, hH5, hg5, hB5⟩
          have T5 := Lib.hid (tabI_of hH5)
          have B5 := Lib.hid (HBx.out.trans (hB5.mono HBx.out.size))
          rw [HL2.out]
          clear hH5 hB5 C2
          go_wp2
          go_roundw
          case rel => exact ⟨q + 1, g5, c5, by omega, by omega, by go_num, rfl, by rw [HPQ.out]; exact T5.out, B5.out⟩
          case measure => simp [intOf]; omega
        · obtain rfl : k = q := by omega
          have t2 : decide ((k : Int) < (k : Int)) = false := by simp
          rw [← er] at HGH
          have C1 := Lib.hid (above_any (powL D r) (3 * k) hlr (by omega) (by omega) p (2 * k) (by omega) hpo.1 gx cx wr HTx.out)
          have B5 := Lib.hid (BW.out.trans (HBx.out.mono BW.out.size))
          obtain ⟨k2, ek2⟩ : ∃ k2, k2 = 2 * k := ⟨_, rfl⟩
          have e2 : 2 * (k : Int) = (k2 : Int) := by omega
          rw [← ek2] at C1 HGH
          clear hpo HTx HBx BW NW HPW HDG HP0 hlr er ek2
          cases hab : aboveL (powL D r) p k2 with
          | true =>
            rw [hab] at C1 HGH
            simp only [if_true] at HGH
            clear hab
            go_wp2_with fail
            refine C1.out.mono ?_
            rintro e w5 ⟨rfl, rfl⟩
            go_wp2
            go_roundw
            case rel => exact ⟨i, n, bh, by omega, rfl, rfl, HB2, HN1, HGH, B5.out⟩
            case measure => simp [intOf]; omega
          | false =>
            rw [hab] at C1 HGH
            simp only [Bool.false_eq_true, if_false] at HGH
            clear hab
            go_wp2_with fail
            refine C1.out.mono ?_
            rintro e w5 ⟨rfl, rfl⟩
            go_wp2
            go_roundw
            case rel => exact ⟨i, m, bh, by omega, rfl, rfl, HB2, HN2, HGH, B5.out⟩
            case measure => simp [intOf]; omega
    · obtain rfl : j = 0 := by omega
      have hb : b = 0 := by have := HBj.out; simpa using this
      subst hb
      have hg : n = RR := HG.out
      subst hg
      have hn := HRL.out
      have t1 : decide ((0 : Int) > 0) = false := by decide
      have t1' : decide ((0 : Int) < 0) = false := by decide
      obtain ⟨x, ex⟩ : ∃ x, x = n % 4294967296 := ⟨_, rfl⟩
      have f0 : (n : Int) % 4294967296 = (x : Int) := by omega
      have hx : x < 4294967296 := by omega
      rw [← ex] at HR
      clear ex HNj HG HBj HRL
      go_wp2
      go_ret
      exact ⟨ret_int (by rw [HR.out]), HBl.out⟩
end Go.Proofs.YtjcpnephgbehmaaDoor
