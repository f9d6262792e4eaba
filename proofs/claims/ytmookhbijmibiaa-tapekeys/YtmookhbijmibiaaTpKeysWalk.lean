/-
  TapeKeys: the walk. Conditions: the slice holds its bytes, the numbers fit int.
-/
import Derived.Test.YtmookhbijmibiaaTpAwake
import Derived.Deep.CutRange
import Derived.OpenShut
namespace Go.Proofs.Ytmookhbijmibiaa
open Go.RowKit Arr

/-- The law answers true; nothing that was there has changed. -/
def TrueK (w : World) (e : Ending) (w' : World) : Prop := e = .returned (.bool true) ∧ Below w.heap.size w w'

section
variable {w : World} {bs : List Nat} {A : Option Addr} {c : Nat}
theorem keysLong (n s : Int) (h : 300 < bs.length) : Calls Try.prog 4 #[.slice A bs.length c, .int .i64 n, .int .i64 s] w (TrueK w) := by
  have C := Lib.hid (awake_any w)
  have t1 : decide ((bs.length : Int) > 300) = true := by simp; omega
  generalize bs.length = N at *
  go_enter Try.func4, Try.ntmps4
  go_wp2_with fail
  refine C.out.mono ?_
  rintro e w1 ⟨rfl, hB⟩
  have HB := Lib.hid hB
  clear hB C
  go_wp2_with fail
  refine (draw_nil w1 0).mono ?_
  rintro e w2 ⟨m1, rfl, rfl⟩
  go_wp2_with fail
  refine (can_nil _ 0).mono ?_
  rintro e w3 ⟨m2, rfl, rfl⟩
  go_wp2_with fail
  refine (place_nil _).mono ?_
  rintro e w4 ⟨rfl, rfl⟩
  go_wp2_with fail
  refine (left_nil _).mono ?_
  rintro e w5 ⟨rfl, rfl⟩
  go_wp2_with fail
  refine (keys_nil _ 0 1).mono ?_
  rintro e w6 ⟨m3, rfl, rfl⟩
  go_wp2
  go_ret
  exact ⟨rfl, below_drewN HB.out _⟩

set_option maxRecDepth 10000 in
set_option maxHeartbeats 4000000 in
theorem keys_few (hb : Bys w w.heap.size A bs) (h : bs.length ≤ 300) (n s : Int) (hn1 : -9223372036854775808 ≤ n ∧ n ≤ 9223372036854775807) (hs1 : -9223372036854775808 ≤ s ∧ s ≤ 9223372036854775807) :
    Calls Try.prog 4 #[.slice A bs.length c, .int .i64 n, .int .i64 s] w (TrueK w) := by
  have C := Lib.hid (awake_any w)
  have HB := Lib.hid hb
  obtain ⟨N, hN⟩ : ∃ N, N = bs.length := ⟨_, rfl⟩
  have HN := Lib.hid hN
  rw [← hN]
  rw [← hN] at h
  have t1 : decide ((N : Int) > 300) = false := by simp; omega
  clear hb hN
  go_enter Try.func4, Try.ntmps4
  go_wp2_with fail
  refine C.out.mono ?_
  rintro e w1 ⟨rfl, hB⟩
  have HB1 := Lib.hid hB
  clear hB C
  go_wp2_with fail
  refine (draw_nil w1 0).mono ?_
  rintro e w2 ⟨m1, rfl, rfl⟩
  go_wp2_with fail
  refine (can_nil _ 0).mono ?_
  rintro e w3 ⟨m2, rfl, rfl⟩
  go_wp2_with fail
  refine (place_nil _).mono ?_
  rintro e w4 ⟨rfl, rfl⟩
  go_wp2_with fail
  refine (left_nil _).mono ?_
  rintro e w5 ⟨rfl, rfl⟩
  go_wp2_with fail
  refine (keys_nil _ 0 1).mono ?_
  rintro e w6 ⟨m3, rfl, rfl⟩
  have B2 := below_drewN HB1.out (m1 + m2 + m3)
  go_wp2_with fail
  generalize w1.drewN (m1 + m2 + m3) = wa at *
  have C1 := Lib.hid (new_any A N c bs HN.out.symm (by omega) wa w.heap.size B2.size (HB.out.below B2))
  have HB2 := Lib.hid B2
  clear B2 HB1
  refine C1.out.mono ?_
  rintro e wb ⟨gt, rfl, hgt, hTt, hBb, _⟩
  have B3 := HB2.out.trans (hBb.mono HB2.out.size)
  have C2 := Lib.hid (new_any A N c bs HN.out.symm (by omega) wb w.heap.size B3.size (HB.out.below B3))
  have HG := Lib.hid (Nat.le_trans HB2.out.size hgt)
  have HT := Lib.hid hTt
  have HB3 := Lib.hid B3
  clear B3 HB2 hgt hTt hBb C1
  go_wp2_with fail
  refine C2.out.mono ?_
  rintro e wc ⟨gu, rfl, hgu, hTu, hBc, hFu⟩
  have HTt := Lib.hid (HT.out.below hBc)
  have HTu := Lib.hid hTu
  have HL := Lib.hid (Nat.lt_of_lt_of_le HT.out.lt hgu)
  have HLb := Lib.hid HT.out.lt
  have HB4 := Lib.hid (HB3.out.trans (hBc.mono HB3.out.size))
  have HF := Lib.hid hFu
  clear hBc hTu hgu HB3 HT C2 HB hFu
  obtain ⟨b1, e1⟩ : ∃ b, decide (n < 0) = b := ⟨_, rfl⟩
  obtain ⟨b2, e2⟩ : ∃ b, decide (n > 4096) = b := ⟨_, rfl⟩
  obtain ⟨b3, e3⟩ : ∃ b, decide (s < 1) = b := ⟨_, rfl⟩
  obtain ⟨b4, e4⟩ : ∃ b, decide (s > 64) = b := ⟨_, rfl⟩
  by_cases hok : okNs n s
  · obtain rfl : b1 = false := by simp only [okNs] at hok; rw [← e1]; simp; omega
    obtain rfl : b2 = false := by simp only [okNs] at hok; rw [← e2]; simp; omega
    obtain rfl : b3 = false := by simp only [okNs] at hok; rw [← e3]; simp; omega
    obtain rfl : b4 = false := by simp only [okNs] at hok; rw [← e4]; simp; omega
    obtain ⟨n, rfl⟩ : ∃ m : Nat, n = (m : Int) := ⟨n.toNat, by simp only [okNs] at hok; omega⟩
    obtain ⟨s, rfl⟩ : ∃ m : Nat, s = (m : Int) := ⟨s.toNat, by simp only [okNs] at hok; omega⟩
    obtain ⟨_, hn2, hs1, hs2⟩ := hok
    have hn3 : n ≤ 4096 := by omega
    have hs3 : 1 ≤ s := by omega
    have hs4 : s ≤ 64 := by omega
    have hm1 : n * s ≤ 4096 * 64 := Nat.mul_le_mul hn3 hs4
    obtain ⟨m, hm⟩ : ∃ m, m = n * s := ⟨_, rfl⟩
    have HM := Lib.hid hm
    have wm : IntKind.i64.wrap ((n : Int) * (s : Int)) = (m : Int) := by rw [← Int.natCast_mul, ← hm, IntKind.wrap_i64]; omega
    by_cases hd : N < m
    · have t2 : decide ((m : Int) > (N : Int)) = true := by simp; omega
      have CK := Lib.hid (keys_dry HTt.out n s hn3 hs3 hs4 (by rw [← HN.out, ← hm]; omega))
      have CP := Lib.hid (fun x => place_any (wc.drewN x) gt 0 (HTt.out.drewN x).made (HTt.out.drewN x).place)
      clear hm hm1 hs1 hs2 hn2 hn3 hs3 hs4 HTt HTu
      go_wp2_with fail
      refine CK.out.mono ?_
      rintro e wd ⟨m4, rfl, rfl⟩
      go_wp2_with fail
      refine (CP.out _).mono ?_
      rintro e we ⟨rfl, rfl⟩
      go_wp2
      go_ret
      exact ⟨rfl, below_drewN HB4.out _⟩
    · have t2 : decide ((m : Int) > (N : Int)) = false := by simp; omega
      have CK := Lib.hid (keys_some HTt.out n s hn3 hs3 hs4 (by rw [← HN.out, ← hm]; omega))
      have HMN := Lib.hid (show m ≤ N by omega)
      clear hm hm1 hs1 hs2 hn2 HTt
      go_wp2_with fail
      refine CK.out.mono ?_
      rintro e wd ⟨gl, rfl, hgl, hK, hTt, hOt⟩
      rw [Nat.zero_add, ← HM.out] at hTt
      have hgul : gu < gl := Nat.lt_of_lt_of_le HTu.out.lt hgl
      have hgtu := HL.out
      have HK := Lib.hid hK
      have HTt := Lib.hid hTt
      have HU := Lib.hid (HTu.out.ahead HF.out hOt HLb.out (by omega))
      have HBd := Lib.hid (HB4.out.trans (hOt.below HG.out HB4.out.size))
      clear hK hTt hOt hgl HTu HF HB4 CK
      go_wp2_with fail
      go_loopw [110] (fun i wr => ∃ k : Nat, k ≤ n ∧ i = .int .i64 (k : Nat) ∧ Kys wr gl n n bs 0 s ∧ Tp wr gt bs m ∧ Tp wr gu bs (k * s) ∧ Below w.heap.size w wr) (fun i _ => n - (intOf i).toNat)
      case atStart => exact ⟨0, by omega, rfl, HK.out, HTt.out, by rw [Nat.zero_mul]; exact HU.out, HBd.out⟩
      case round =>
        clear HK HTt HU HBd
        obtain ⟨k, hk, rfl, hK, hTt, hTu, hB⟩ := hrel
        by_cases hlt : k < n
        · have t3 : decide ((k : Int) < (n : Int)) = true := by simp; omega
          have hmm : (k + 1) * s ≤ n * s := Nat.mul_le_mul_right s hlt
          rw [← HM.out, Nat.add_mul, Nat.one_mul] at hmm
          have hbd : k * s + s ≤ bs.length := by have := HMN.out; have := HN.out; omega
          have hlen : ((bs.drop (k * s)).take s).length = s := by rw [List.length_take, List.length_drop]; omega
          obtain ⟨v, hv, hL1⟩ := hK.cells k hlt
          rw [piece, Nat.zero_add] at hL1
          have CD := Lib.hid (draw_some hTu s hbd)
          have L1 := Lib.hid hL1
          obtain ⟨A1, c1, hv1, _, _, _, _⟩ := hL1
          rw [hlen] at hv1
          have HV := Lib.hid hv1
          rw [hv1] at hv
          have HK := Lib.hid hK
          have HTt := Lib.hid hTt
          have HBr := Lib.hid hB
          have HLE := Lib.hid hlen
          clear hK hTt hTu hB hmm hbd hlen hv1
          go_wp2_with fail
          refine CD.out.mono ?_
          rintro e we ⟨v2, rfl, ⟨A2, c2, hv2, _, _, hb2, _⟩, hTu2, hO2⟩
          rw [HLE.out] at hv2
          subst hv2
          obtain ⟨A1', c1', hv1', _, _, hb1, _⟩ := L1.out.only hO2 (by omega)
          rw [HV.out, HLE.out] at hv1'
          simp only [Value.slice.injEq, true_and] at hv1'
          obtain ⟨rfl, rfl⟩ := hv1'
          have CS := same_any A1 A2 ((bs.drop (k * s)).take s) ((bs.drop (k * s)).take s) s s c1 c2 we HLE.out HLE.out (by omega) _ _ hb1 hb2
          rw [show decide ((bs.drop (k * s)).take s = (bs.drop (k * s)).take s) = true by simp] at CS
          have CS := Lib.hid CS
          have X1 := Lib.hid (HK.out.only hO2 hgul (Nat.le_refl _))
          have X2 := Lib.hid (HTt.out.only hO2 hgtu)
          have X3 := Lib.hid hTu2
          have X4 := Lib.hid (HBr.out.trans (hO2.below (Nat.le_of_lt (Nat.lt_of_le_of_lt HG.out hgtu)) HBr.out.size))
          clear hb1 hb2 hTu2 hO2 HK HTt HBr L1 CD
          go_wp2_with fail
          refine CS.out.mono ?_
          rintro e wf ⟨m5, rfl, rfl⟩
          go_wp2
          go_roundw
          case rel => exact ⟨k + 1, by omega, by go_num, X1.out.only ((Only.refl gu we).drewN _) hgul (Nat.le_refl _), X2.out.drewN _, by rw [Nat.add_mul, Nat.one_mul]; exact X3.out.drewN _, below_drewN X4.out _⟩
          case measure => simp [intOf]; omega
        · obtain rfl : k = n := by omega
          have t3 : decide ((k : Int) < (k : Int)) = false := by simp
          rw [← HM.out] at hTu
          have CP := Lib.hid (place_any wr gt m hTt.made hTt.place)
          have CU := Lib.hid (place_any wr gu m hTu.made hTu.place)
          have HBr := Lib.hid hB
          clear hK hTt hTu hB
          go_wp2_with fail
          refine CP.out.mono ?_
          rintro e we ⟨rfl, rfl⟩
          go_wp2_with fail
          refine CP.out.mono ?_
          rintro e we ⟨rfl, rfl⟩
          go_wp2_with fail
          refine CU.out.mono ?_
          rintro e we ⟨rfl, rfl⟩
          go_wp2
          go_ret
          exact ⟨rfl, HBr.out⟩
  · have CK := Lib.hid (keys_bad HTt.out n s hok)
    have CP := Lib.hid (fun x => place_any (wc.drewN x) gt 0 (HTt.out.drewN x).made (HTt.out.drewN x).place)
    have HOK := Lib.hid hok
    clear hok HTt HTu
    go_wp2_with fail
    refine CK.out.mono ?_
    rintro e wd ⟨m4, rfl, rfl⟩
    go_upto_region 14 with (fail)
    rcases b1 with _ | _ <;> rcases b2 with _ | _ <;> rcases b3 with _ | _ <;> rcases b4 with _ | _
    case false.false.false.false =>
      exfalso; apply HOK.out; simp at e1 e2 e3 e4; unfold okNs; omega
    all_goals
      go_wp2_with fail
      refine (CP.out _).mono ?_
      rintro e we ⟨rfl, rfl⟩
      go_wp2
      go_ret
      exact ⟨rfl, below_drewN HB4.out _⟩
/-- TAPEKEYS. -/
theorem keys_walk (bs : List Nat) (A : Option Addr) (c : Nat) (hb : Bys w w.heap.size A bs) (_hc : bs.length ≤ c) (_hn : A = none → c = 0) (n : Int) (hn : (Lit.int .i64 n).wf = true) (s : Int) (hs : (Lit.int .i64 s).wf = true) :
    Calls Try.prog 4 #[.slice A bs.length c, .int .i64 n, .int .i64 s] w (TrueK w) := by
  by_cases h : bs.length ≤ 300
  · exact keys_few hb h n s (bounds_i64 hn) (bounds_i64 hs)
  · exact keysLong n s (by omega)
end
end Go.Proofs.Ytmookhbijmibiaa
