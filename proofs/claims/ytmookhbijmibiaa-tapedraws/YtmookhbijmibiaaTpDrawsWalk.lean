/-
  TapeDraws: the walk. Conditions: the slices hold their bytes and numbers.
-/
import Derived.Test.YtmookhbijmibiaaTpAwake
import Derived.Test.YtmookhbijmibiaaIntsIn
namespace Go.Proofs.Ytmookhbijmibiaa
open Go.RowKit Arr

/-- The law answers true; nothing that was there has changed. -/
def TrueB (w : World) (e : Ending) (w' : World) : Prop := e = .returned (.bool true) ∧ Below w.heap.size w w'

section
variable {w : World} {bs : List Nat} {A A' : Option Addr} {c c' : Nat} {zs : List Int}
theorem drawsLong (h : 300 < bs.length) : Calls Try.prog 3 #[.slice A bs.length c, .slice A' zs.length c'] w (TrueB w) := by
  have C := Lib.hid (awake_any w)
  have t1 : decide ((bs.length : Int) > 300) = true := by simp; omega
  generalize bs.length = N at *
  go_enter Try.func3, Try.ntmps3
  go_wp2_with fail
  refine C.out.mono ?_
  rintro e w1 ⟨rfl, hB⟩
  have HB := Lib.hid hB
  clear hB C
  go_wp2
  go_ret
  exact ⟨rfl, HB.out⟩
theorem drawsMany (h : bs.length ≤ 300) (h' : 60 < zs.length) : Calls Try.prog 3 #[.slice A bs.length c, .slice A' zs.length c'] w (TrueB w) := by
  have C := Lib.hid (awake_any w)
  have t1 : decide ((bs.length : Int) > 300) = false := by simp; omega
  have t2 : decide ((zs.length : Int) > 60) = true := by simp; omega
  generalize bs.length = N at *
  generalize zs.length = M at *
  go_enter Try.func3, Try.ntmps3
  go_wp2_with fail
  refine C.out.mono ?_
  rintro e w1 ⟨rfl, hB⟩
  have HB := Lib.hid hB
  clear hB C
  go_wp2
  go_ret
  exact ⟨rfl, HB.out⟩

set_option maxRecDepth 10000 in
set_option maxHeartbeats 2000000 in
theorem draws_few (hb : Bys w w.heap.size A bs) (hc : bs.length ≤ c) (hz : IntsI w w.heap.size A' zs) (h : bs.length ≤ 300) (h' : zs.length ≤ 60) :
    Calls Try.prog 3 #[.slice A bs.length c, .slice A' zs.length c'] w (TrueB w) := by
  have C := Lib.hid (awake_any w)
  have HB := Lib.hid hb
  have HZ := Lib.hid hz
  obtain ⟨N, hN⟩ : ∃ N, N = bs.length := ⟨_, rfl⟩
  obtain ⟨M, hM⟩ : ∃ M, M = zs.length := ⟨_, rfl⟩
  have HN := Lib.hid hN
  have HM := Lib.hid hM
  rw [← hN, ← hM]
  rw [← hN] at h hc
  rw [← hM] at h'
  have t1 : decide ((N : Int) > 300) = false := by simp; omega
  have t2 : decide ((M : Int) > 60) = false := by simp; omega
  clear hb hz hN hM
  go_enter Try.func3, Try.ntmps3
  go_wp2_with fail
  refine C.out.mono ?_
  rintro e w1 ⟨rfl, hB1⟩
  have C1 := Lib.hid (new_any A N c bs HN.out.symm (by omega) w1 w.heap.size hB1.size (HB.out.below hB1))
  have HB1 := Lib.hid hB1
  clear hB1 C
  go_wp2_with fail
  refine C1.out.mono ?_
  rintro e w2 ⟨g, rfl, hg, hT, hB2, _⟩
  have HT := Lib.hid hT
  have HG := Lib.hid (Nat.le_trans HB1.out.size hg)
  have HB2 := Lib.hid (HB1.out.trans (hB2.mono HB1.out.size))
  clear hg hT hB2 C1 HB1
  go_wp2_with fail
  go_loopw [6, 27] (fun a i wr => ∃ k p : Nat, k ≤ M ∧ i = .int .i64 (k : Nat) ∧ a = .int .i64 (p : Nat) ∧ Tp wr g bs p ∧ Below w.heap.size w wr) (fun _ i _ => M - (intOf i).toNat)
  case atStart => exact ⟨0, 0, by omega, rfl, rfl, HT.out, HB2.out⟩
  case round =>
    clear HT HB2
    obtain ⟨k, p, hk, rfl, rfl, hT, hB⟩ := hrel
    have hp := hT.le
    rw [← HN.out] at hp
    by_cases hlt : k < M
    · have t3 : decide ((k : Int) < (M : Int)) = true := by simp; omega
      obtain ⟨b', off', rfl, hb', hcell⟩ := (HZ.out.below hB).2 (by rw [← HM.out]; omega)
      have hc2 := hcell k (by rw [← HM.out]; exact hlt)
      have hbd := HZ.out.bounds k
      clear hcell
      generalize zs.getD k 0 = n at *
      obtain ⟨d, hd⟩ : ∃ d, d = N - p := ⟨_, rfl⟩
      have HD := Lib.hid hd
      have wd : IntKind.i64.wrap ((N : Int) - (p : Int)) = (d : Int) := by rw [IntKind.wrap_i64]; omega
      have wk : IntKind.i64.wrap ((k : Int) + 1) = (k : Int) + 1 := by rw [IntKind.wrap_i64]; omega
      by_cases hn : n < 0
      · have t4 : decide (n < 0) = true := by simp; omega
        have CC := can_any hT n
        rw [show canB n (bs.length - p) = false by rw [← HN.out]; simp [canB]; omega] at CC
        have CC := Lib.hid CC
        have CD := Lib.hid (fun q => draw_neg (hT.drewN q) n hn)
        have CP := Lib.hid (fun q => place_any (wr.drewN q) g p (hT.drewN q).made (hT.drewN q).place)
        have CL : Go.RowKit.Hid (∀ q, Calls Try.prog 11 #[.pointer (some ⟨g, 0, none⟩)] (wr.drewN q) (Tells d (wr.drewN q))) := Lib.hid (fun q => by
          have := left_any (hT.drewN q)
          rwa [← HN.out, ← hd] at this)
        have HT := Lib.hid hT
        have HBr := Lib.hid hB
        clear hT hB hd
        go_wp2_with fail
        refine CC.out.mono ?_
        rintro e w3 ⟨m1, rfl, rfl⟩
        go_wp2_with fail
        refine (CD.out _).mono ?_
        rintro e w4 ⟨m2, rfl, rfl⟩
        go_wp2_with fail
        refine (CP.out _).mono ?_
        rintro e w5 ⟨rfl, rfl⟩
        go_wp2_with fail
        refine (CL.out _).mono ?_
        rintro e w6 ⟨m3, rfl, rfl⟩
        go_wp2
        go_roundw
        case rel => exact ⟨k + 1, p, by omega, by go_num, rfl, HT.out.drewN _, below_drewN HBr.out _⟩
        case measure => simp [intOf]; omega
      · obtain ⟨m, rfl⟩ : ∃ m : Nat, n = (m : Int) := ⟨n.toNat, by omega⟩
        have t4 : decide ((m : Int) < 0) = false := by simp
        by_cases hm : d < m
        · have t5 : decide ((m : Int) > (d : Int)) = true := by simp; omega
          have CC := can_any hT (m : Int)
          rw [show canB (m : Int) (bs.length - p) = false by rw [← HN.out]; simp [canB]; omega] at CC
          have CC := Lib.hid CC
          have CD := Lib.hid (fun q => draw_dry (hT.drewN q) m (by omega) (by rw [← HN.out]; omega))
          have CP := Lib.hid (fun q => place_any (wr.drewN q) g p (hT.drewN q).made (hT.drewN q).place)
          have CL : Go.RowKit.Hid (∀ q, Calls Try.prog 11 #[.pointer (some ⟨g, 0, none⟩)] (wr.drewN q) (Tells d (wr.drewN q))) := Lib.hid (fun q => by
            have := left_any (hT.drewN q)
            rwa [← HN.out, ← hd] at this)
          have HT := Lib.hid hT
          have HBr := Lib.hid hB
          clear hT hB hd
          go_wp2_with fail
          refine CC.out.mono ?_
          rintro e w3 ⟨m1, rfl, rfl⟩
          go_wp2_with fail
          refine (CD.out _).mono ?_
          rintro e w4 ⟨m2, rfl, rfl⟩
          go_wp2_with fail
          refine (CP.out _).mono ?_
          rintro e w5 ⟨rfl, rfl⟩
          go_wp2_with fail
          refine (CL.out _).mono ?_
          rintro e w6 ⟨m3, rfl, rfl⟩
          go_wp2
          go_roundw
          case rel => exact ⟨k + 1, p, by omega, by go_num, rfl, HT.out.drewN _, below_drewN HBr.out _⟩
          case measure => simp [intOf]; omega
        · have t5 : decide ((m : Int) > (d : Int)) = false := by simp; omega
          obtain ⟨q, hq⟩ : ∃ q, q = p + m := ⟨_, rfl⟩
          obtain ⟨d2, hd2⟩ : ∃ d2, d2 = N - q := ⟨_, rfl⟩
          have wq : IntKind.i64.wrap ((p : Int) + (m : Int)) = (q : Int) := by rw [IntKind.wrap_i64]; omega
          have wd2 : IntKind.i64.wrap ((N : Int) - (q : Int)) = (d2 : Int) := by rw [IntKind.wrap_i64]; omega
          have hqN : q ≤ N := by omega
          have ee : q - p = m := by omega
          have hlen : ((bs.drop p).take m).length = m := by rw [List.length_take, List.length_drop, ← HN.out]; omega
          have CC := can_any hT (m : Int)
          rw [show canB (m : Int) (bs.length - p) = true by rw [← HN.out]; simp [canB]; omega] at CC
          have CC := Lib.hid CC
          have CD := Lib.hid (fun x => draw_some (hT.drewN x) m (by rw [← HN.out]; omega))
          have RL := run_cut_lh A N c p q (by omega) (by omega)
          rw [ee] at RL
          have HBr := Lib.hid hB
          have HQ := Lib.hid hq
          have HD2 := Lib.hid hd2
          have HL := Lib.hid hlen
          have HE := Lib.hid ee
          clear hT hB hd hq hd2 hlen ee
          go_wp2_with fail
          refine CC.out.mono ?_
          rintro e w3 ⟨m1, rfl, rfl⟩
          go_wp2_with fail
          refine (CD.out _).mono ?_
          rintro e w4 ⟨v, rfl, ⟨A3, c3, hv, _, _, hb3, _⟩, hT4, hO4⟩
          rw [HL.out] at hv
          subst hv
          rw [← HQ.out] at hT4
          have B4 : Below w.heap.size w w4 := (below_drewN HBr.out m1).trans (hO4.below HG.out HBr.out.size)
          have hcut := bys_cut (HB.out.below B4) c (by rw [← HN.out]; exact hc) p q (by have := HQ.out; omega) (by rw [← HN.out]; exact hqN)
          rw [HE.out] at hcut
          have CS := same_any A3 (cutA A c p) ((bs.drop p).take m) ((bs.drop p).take m) m m c3 (c - p) w4 HL.out HL.out (by have := HQ.out; omega) _ _ hb3 hcut
          rw [show decide ((bs.drop p).take m = (bs.drop p).take m) = true by simp] at CS
          have CS := Lib.hid CS
          have CP := Lib.hid (fun x => place_any (w4.drewN x) g q (hT4.drewN x).made (hT4.drewN x).place)
          have CL : Go.RowKit.Hid (∀ x, Calls Try.prog 11 #[.pointer (some ⟨g, 0, none⟩)] (w4.drewN x) (Tells d2 (w4.drewN x))) := Lib.hid (fun x => by
            have := left_any (hT4.drewN x)
            rwa [← HN.out, ← HD2.out] at this)
          have HT4 := Lib.hid hT4
          have HB4 := Lib.hid B4
          clear hT4 B4 hO4 hb3 hcut CC CD
          generalize cutA A c p = A5 at *
          go_wp2_with fail
          refine CS.out.mono ?_
          rintro e w5 ⟨m5, rfl, rfl⟩
          go_wp2_with fail
          refine (CP.out _).mono ?_
          rintro e w6 ⟨rfl, rfl⟩
          go_wp2_with fail
          refine (CL.out _).mono ?_
          rintro e w7 ⟨m6, rfl, rfl⟩
          go_wp2
          go_roundw
          case rel => exact ⟨k + 1, q, by omega, by go_num, rfl, HT4.out.drewN _, below_drewN HB4.out _⟩
          case measure => simp [intOf]; omega
    · obtain rfl : k = M := by omega
      have t3 : decide ((k : Int) < (k : Int)) = false := by simp
      have HF := Lib.hid hB
      clear hT hB
      go_wp2
      go_ret
      exact ⟨rfl, HF.out⟩
/-- TAPEDRAWS. -/
theorem draws_walk (bs : List Nat) (A : Option Addr) (c : Nat) (hb : Bys w w.heap.size A bs) (hc : bs.length ≤ c) (_hn : A = none → c = 0) (zs : List Int) (A' : Option Addr) (c' : Nat) (hz : IntsI w w.heap.size A' zs) :
    Calls Try.prog 3 #[.slice A bs.length c, .slice A' zs.length c'] w (TrueB w) := by
  by_cases h : bs.length ≤ 300
  · by_cases h' : zs.length ≤ 60
    · exact draws_few hb hc hz h h'
    · exact drawsMany h (by omega)
  · exact drawsLong (by omega)
end
end Go.Proofs.Ytmookhbijmibiaa
