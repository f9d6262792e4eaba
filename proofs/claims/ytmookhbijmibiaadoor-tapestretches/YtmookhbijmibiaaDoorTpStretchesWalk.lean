/-
  TapeStretches: the walk. Conditions: the tables stand in their variables; the slice holds its bytes.
-/
import Derived.Test.YtmookhbijmibiaaDoorTpStretch
import Derived.Test.YtmookhbijmibiaaDoorTpAwake
import Derived.Test.YtmookhbijmibiaaDoorShaSumsWalk
import Derived.Test.YtmookhbijmibiaaDoorOwnMany
namespace Go.Proofs.YtmookhbijmibiaaDoor
open Go.RowKit Arr Sh Tps

/-- The law answers true; nothing that was there has changed. -/
def TrueS (w : World) (e : Ending) (w' : World) : Prop := e = .returned (.bool true) ∧ Below w.heap.size w w'
/-- How long a slice is. -/
def lenOf : Value → Nat
  | .slice _ m _ => m
  | _ => 0
theorem owns_cap {w : World} {base e n c : Nat} {A : Option Addr} {xs : List Value} (h : w.ownsRow base e 1 (.slice A n c) n xs) : n ≤ c := by
  rcases h.2 with ⟨h1, h0⟩ | ⟨g, cap, cur, h1, _, _, h4, _⟩
  · omega
  · simp only [Value.slice.injEq] at h1
    omega
theorem holds_bytes {w : World} {g : Nat} {l : List Nat} (h : Holds w g .u8 l) (hb : ∀ x, x ∈ l → x < 256) : Bys w w.heap.size (some ⟨g, 0, none⟩) l :=
  ⟨hb, fun hl => ⟨g, 0, rfl, h.lt hl, fun i hi => by rw [Nat.zero_add]; exact h.cell i hi⟩⟩

section
variable {w : World} {bs : List Nat} {A : Option Addr} {c : Nat}
theorem stretchesSeed (n k : Int) (h : 100 < bs.length) : Calls Tryd.prog 3 #[.slice A bs.length c, .int .i64 n, .int .i64 k] w (TrueS w) := by
  have C := Lib.hid (awake_any w)
  have t1 : decide ((bs.length : Int) > 100) = true := by simp; omega
  generalize bs.length = N at *
  go_enter Tryd.func3, Tryd.ntmps3
  go_wp2_with fail
  refine C.out.mono ?_
  rintro e w1 ⟨rfl, hB⟩
  have HB := Lib.hid hB
  clear hB C
  go_wp2
  go_ret
  exact ⟨rfl, HB.out⟩
theorem stretchesFar (n k : Int) (h : bs.length ≤ 100) (h1 : 300 < n) (h2 : n ≤ 1048576) : Calls Tryd.prog 3 #[.slice A bs.length c, .int .i64 n, .int .i64 k] w (TrueS w) := by
  have C := Lib.hid (awake_any w)
  have t1 : decide ((bs.length : Int) > 100) = false := by simp; omega
  have t2 : decide (n > 300) = true := by simp; omega
  have t3 : decide (n ≤ 1048576) = true := by simp; omega
  generalize bs.length = N at *
  go_enter Tryd.func3, Tryd.ntmps3
  go_wp2_with fail
  refine C.out.mono ?_
  rintro e w1 ⟨rfl, hB⟩
  have HB := Lib.hid hB
  clear hB C
  go_wp2
  go_ret
  exact ⟨rfl, HB.out⟩
theorem stretchesBad (n k : Int) (h : bs.length ≤ 100) (hn : n < 0 ∨ 1048576 < n) : Calls Tryd.prog 3 #[.slice A bs.length c, .int .i64 n, .int .i64 k] w (TrueS w) := by
  have C := Lib.hid (awake_any w)
  have t1 : decide ((bs.length : Int) > 100) = false := by simp; omega
  have CS := Lib.hid (fun w' => stretch_bad A bs.length c n hn w')
  generalize bs.length = N at *
  rcases hn with h1 | h1
  · have t2 : decide (n > 300) = false := by simp; omega
    have t4 : decide (n < 0) = true := by simp; omega
    go_enter Tryd.func3, Tryd.ntmps3
    go_wp2_with fail
    refine C.out.mono ?_
    rintro e w1 ⟨rfl, hB⟩
    have HB := Lib.hid hB
    clear hB C
    go_wp2_with fail
    refine (CS.out _).mono ?_
    rintro e w2 ⟨rfl, rfl⟩
    go_wp2
    go_ret
    exact ⟨rfl, HB.out⟩
  · have t2 : decide (n > 300) = true := by simp; omega
    have t3 : decide (n ≤ 1048576) = false := by simp; omega
    have t4 : decide (n < 0) = false := by simp; omega
    have t5 : decide (n > 1048576) = true := by simp; omega
    go_enter Tryd.func3, Tryd.ntmps3
    go_wp2_with fail
    refine C.out.mono ?_
    rintro e w1 ⟨rfl, hB⟩
    have HB := Lib.hid hB
    clear hB C
    go_wp2_with fail
    refine (CS.out _).mono ?_
    rintro e w2 ⟨rfl, rfl⟩
    go_wp2
    go_ret
    exact ⟨rfl, HB.out⟩
end

section
variable {bs : List Nat} {A : Option Addr} {c N : Nat}
set_option maxRecDepth 10000 in
set_option maxHeartbeats 4000000 in
theorem stretches_few (w : World) (hv : VarsS w) (hN : bs.length = N) (hb : Bys w w.heap.size A bs) (hc : N ≤ c) (hAc : A = none → c = 0) (h : N ≤ 100) (n : Nat) (hn : n ≤ 300) (k : Int) :
    Calls Tryd.prog 3 #[.slice A N c, .int .i64 (n : Int), .int .i64 k] w (TrueS w) := by
  have C := Lib.hid (awake_any w)
  have CS : Go.RowKit.Hid (∀ w' (m : Nat), m ≤ 300 → Below w.heap.size w w' → Calls Tryd.prog 5 #[.slice A N c, .int .i64 (m : Int)] w' (Stretched (str bs m) m w')) := Lib.hid (fun w' m hm hB =>
    stretch_any bs A N c hN hc (by omega) m (by omega) w' ((hb.below hB).more hB.size) (hv.below hB (Nat.le_refl _)))
  have HB := Lib.hid hb
  have HN := Lib.hid hN
  have t1 : decide ((N : Int) > 100) = false := by simp; omega
  have t2 : decide ((n : Int) > 300) = false := by simp; omega
  have t4 : decide ((n : Int) < 0) = false := by simp
  have t5 : decide ((n : Int) > 1048576) = false := by simp; omega
  have LS := Lib.hid (length_str bs n)
  clear hv hb hN
  go_enter Tryd.func3, Tryd.ntmps3
  go_wp2_with fail
  refine C.out.mono ?_
  rintro e w1 ⟨rfl, hB1⟩
  have C1 := Lib.hid (CS.out w1 n hn hB1)
  have HB1 := Lib.hid hB1
  clear hB1 C
  go_wp2_with fail
  refine C1.out.mono ?_
  rintro e w2 ⟨gb, rfl, hgb, hH, hB2⟩
  have HG := Lib.hid (Nat.le_trans HB1.out.size hgb)
  have HB2 := Lib.hid (HB1.out.trans (hB2.mono HB1.out.size))
  have HH := Lib.hid hH
  have HHl := Lib.hid (fun (h0 : 0 < n) => hH.lt (by rw [LS.out]; exact h0))
  clear hgb hH hB2 C1 HB1
  go_wp2_with fail
  go_loopw [9, 10] (fun v i wr => ∃ (j m : Nat) (A' : Option Addr) (c' : Nat), Go.RowKit.Hid (m = 32 * j) ∧ j ≤ 300 ∧ v = .slice A' m c' ∧ i = .int .u64 (j : Nat) ∧ wr.ownsRow w2.heap.size 5 1 (.slice A' m c') m (vals .u8 (strs bs j)) ∧ Below w2.heap.size w2 wr) (fun v _ _ => n - lenOf v)
  case atStart => exact ⟨0, 0, none, 0, Lib.hid rfl, by omega, rfl, rfl, ⟨rfl, .inl ⟨rfl, rfl⟩⟩, Below.refl _ _⟩
  case round =>
    obtain ⟨j, m, A', c', hm, hj, rfl, rfl, ho, hB⟩ := hrel
    by_cases hlt : m < n
    · have tt : decide ((m : Int) < (n : Int)) = true := by simp; omega
      have HJ := Lib.hid (show j + 1 ≤ 300 by have := hm.out; omega)
      have HM1 : Go.RowKit.Hid (m + 32 = 32 * (j + 1)) := Lib.hid (by have := hm.out; omega)
      have wj : IntKind.u64.wrap ((j : Int) + 1) = (j : Int) + 1 := by rw [IntKind.wrap_u64]; omega
      have HO := Lib.hid ho
      have HBr := Lib.hid hB
      have L8 := length_bytesOf j 8
      have q0 := Lib.hid (below_alloc wr (.cells #[] 5))
      have q1 := HB2.out.trans (HBr.out.mono HB2.out.size)
      have hbr := Lib.hid (((HB.out.below q1).more q1.size).below q0.out)
      have hsz : wr.heap.size ≤ (wr.alloc (.cells #[] 5)).heap.size := q0.out.size
      have hne0 : (Value.slice (some ⟨wr.heap.size, 0, none⟩) 0 0) ≠ .slice none 0 0 := by simp
      clear ho hB q1
      go_wp2_with (at_builtin; refine append_bys rfl (.tmp 52) (.tmp 53) 22 rfl wr.heap.size 5 Tryd.underlying22 info_byte (.slice (some ⟨wr.heap.size, 0, none⟩) 0 0) 0 [] rfl (empty_owns wr) A N c bs rfl hAc HN.out wr.heap.size hbr.out (by omega) hsz hne0 ?_; intro v1 w3 hown1 hv1 hbel1)
      rw [List.nil_append, Nat.zero_add] at hown1
      have b3 := q0.out.trans hbel1
      have O1 := Lib.hid hown1
      have HV1 := Lib.hid hv1
      have B3 := Lib.hid b3
      clear hown1 hv1 hbel1 b3 q0 hbr hsz hne0
      refine (rput64_any j (by omega) w3).mono ?_
      rintro e w4 ⟨A2, c2, he, hb2, hB4⟩
      rw [L8] at he
      subst he
      have hA2 : A2 = none → c2 = 0 := fun h0 => by
        obtain ⟨_, _, h1, _⟩ := hb2.2 (by rw [L8]; omega)
        rw [h0] at h1; cases h1
      have O2 := Lib.hid (owns_below O1.out hB4)
      have b4 := B3.out.trans (hB4.mono B3.out.size)
      have hs4 : wr.heap.size ≤ w4.heap.size := b4.size
      have Y2 := Lib.hid hb2
      have B4 := Lib.hid b4
      have hv1 := HV1.out
      clear hb2 hB4 b4 O1 B3 HV1
      go_wp2_with (at_builtin; refine append_bys rfl (.tmp 54) (.tmp 56) 22 rfl wr.heap.size 5 Tryd.underlying22 info_byte v1 N bs rfl O2.out A2 8 c2 (bytesOf j 8) rfl hA2 L8 w4.heap.size Y2.out (by omega) hs4 hv1 ?_; intro v2 w5 hown2 hv2 hbel2)
      have hbb : ∀ x, x ∈ bs ++ bytesOf j 8 → x < 256 := fun x hx => (List.mem_append.1 hx).elim (HB.out.1 x) (bytesOf_lt j 8 x)
      obtain ⟨A5, c5, rfl, hA5, hb5⟩ := owns_form hown2 hbb hv2
      have b5 := B4.out.trans hbel2
      have C6 := Lib.hid (rsum5_any (bs ++ bytesOf j 8) A5 (N + 8) c5 (by rw [List.length_append, HN.out, L8]) (by omega) hA5 w5 hb5)
      have B5 := Lib.hid b5
      have LT := length_blk bs j
      have TB := Lib.hid (blk_byte bs j)
      have ES : Go.RowKit.Hid (strs bs (j + 1) = strs bs j ++ blk bs j) := Lib.hid rfl
      rw [show Sh.sum (bs ++ bytesOf j 8) = blk bs j from rfl] at C6
      clear hown2 hv2 hbel2 hbb hA5 hb5 b5 O2 Y2 B4 hv1
      generalize blk bs j = tg at *
      refine C6.out.mono ?_
      rintro e w6 ⟨rfl, hB6⟩
      have b6 := B5.out.trans (hB6.mono B5.out.size)
      have bn := below_setCells (b := w6.heap.size) (Nat.le_refl _) (nv .u8 tg) 0 _ (below_alloc w6 (.cells (na .u8 (zs 32)) 28))
      have A7 := Holds.new w6 28 .u8 (zs 32)
      have H5 := Lib.hid A7
      have H7 := Lib.hid (A7.put tg (by rw [LT, length_zs]))
      have b7 := b6.trans (bn.mono b6.size)
      have O7 := Lib.hid (owns_below HO.out b7)
      have B7 := Lib.hid (HBr.out.trans (b7.mono HBr.out.size))
      clear b6 bn A7 b7 hB6 C6 B5 HO
      go_upto_region 13 with (first | (with_reducible refine Arr.alloc (t := 28) _ z32 ?_) | (with_reducible refine Arr.store o32 w6.heap.size (zs 32) tg (length_zs _) H5.out LT rfl rfl ?_) | fail)
      generalize (w6.alloc (.cells (na .u8 (zs 32)) 28)).setCells w6.heap.size 0 (nv .u8 tg) = w7 at *
      clear H5
      have hs2 := fun W : World => sliceAll o32 W w6.heap.size 0
      generalize w6.heap.size = g at *
      have N7 := Lib.hid (holds_bytes H7.out TB.out).nums
      have hs7 : w2.heap.size ≤ w7.heap.size := B7.out.size
      go_wp2_with (at_builtin; refine append_many rfl (.tmp 59) (.tmp 60) 22 rfl w2.heap.size 5 .u8 1 Tryd.underlying22 info_byte (by omega) (.slice A' m c') m (strs bs j) rfl O7.out (some ⟨g, 0, none⟩) 32 32 tg rfl (fun h0 => by cases h0) LT w7.heap.size N7.out (by omega) hs7 ?_; intro v8 w8 hown8 hbel8)
      rw [← ES.out] at hown8
      obtain ⟨A8, c8, rfl, _, _⟩ := bys_of_owns hown8 (strs_byte bs (j + 1))
      have O8 := Lib.hid hown8
      have B8 := Lib.hid (B7.out.trans hbel8)
      clear hown8 hbel8 hs2 N7 hs7 O7 B7 H7
      go_wp2
      go_roundw
      case rel => exact ⟨j + 1, m + 32, A8, c8, HM1, HJ.out, rfl, by go_num, O8.out, B8.out⟩
      case measure => simp [lenOf]; omega
    · have tt : decide ((m : Int) < (n : Int)) = false := by simp; omega
      have hmc := owns_cap ho
      obtain ⟨A1, c1, he, hl1, hY⟩ := bys_of_owns ho (strs_byte bs j)
      simp only [Value.slice.injEq, true_and] at he
      obtain ⟨rfl, rfl⟩ := he
      have RL := run_cut_h A' m c' n (by omega)
      have hcut := bys_cut hY c' (by rw [hl1]; exact hmc) 0 n (by omega) (by rw [hl1]; omega)
      rw [List.drop_zero, Nat.sub_zero, take_strs bs j n (by have := hm.out; omega)] at hcut
      have hb1 := ((holds_bytes HH.out (str_byte bs n)).below hB).more hB.size
      have S1 := same_any (some ⟨gb, 0, none⟩) (cutA A' c' 0) (str bs n) (str bs n) n n n c' wr LS.out LS.out (by omega) _ _ hb1 hcut
      rw [show decide (str bs n = str bs n) = true by simp] at S1
      have S1 := Lib.hid S1
      have HBw := Lib.hid (HB2.out.trans (hB.mono HB2.out.size))
      have HY1 := Lib.hid hb1
      clear ho hB hY hcut hb1 hmc hl1 hm
      generalize cutA A' c' 0 = A5 at *
      by_cases hk : k < 0 ∨ (n : Int) < k
      · rcases hk with hk | hk
        · have t6 : decide (k < 0) = true := by simp; omega
          go_wp2_with fail
          refine S1.out.mono ?_
          rintro e w3 ⟨m3, rfl, rfl⟩
          go_wp2
          go_ret
          exact ⟨rfl, below_drewN HBw.out _⟩
        · have t6 : decide (k < 0) = false := by simp; omega
          have t7 : decide (k > (n : Int)) = true := by simp; omega
          go_wp2_with fail
          refine S1.out.mono ?_
          rintro e w3 ⟨m3, rfl, rfl⟩
          go_wp2
          go_ret
          exact ⟨rfl, below_drewN HBw.out _⟩
      · obtain ⟨q, rfl⟩ : ∃ q : Nat, k = (q : Int) := ⟨k.toNat, by omega⟩
        have hq : q ≤ n := by omega
        have t6 : decide ((q : Int) < 0) = false := by simp
        have t7 : decide ((q : Int) > (n : Int)) = false := by simp; omega
        have S2 := Lib.hid (fun m3 => CS.out (wr.drewN m3) q (by omega) (below_drewN HBw.out m3))
        have RL2 := run_cut_h (some ⟨gb, 0, none⟩) n n q hq
        have LQ := Lib.hid (length_str bs q)
        clear hk
        go_wp2_with fail
        refine S1.out.mono ?_
        rintro e w3 ⟨m3, rfl, rfl⟩
        go_wp2_with fail
        refine (S2.out m3).mono ?_
        rintro e w4 ⟨g2, rfl, hg2, hH2, hB4⟩
        have hY4 := (HY1.out.drewN m3).below hB4
        have hcut := bys_cut (hY4.more hB4.size) n (by rw [LS.out]; exact Nat.le_refl _) 0 q (by omega) (by rw [LS.out]; exact hq)
        rw [List.drop_zero, Nat.sub_zero, str_take bs q n hq] at hcut
        have S3 := same_any (some ⟨g2, 0, none⟩) (cutA (some ⟨gb, 0, none⟩) n 0) (str bs q) (str bs q) q q q n w4 LQ.out LQ.out (by omega) _ _ (holds_bytes hH2 (str_byte bs q)) hcut
        rw [show decide (str bs q = str bs q) = true by simp] at S3
        have S3 := Lib.hid S3
        have HB4 := Lib.hid ((below_drewN HBw.out m3).trans (hB4.mono HBw.out.size))
        clear hg2 hH2 hB4 hY4 hcut S2 S1
        generalize cutA (some ⟨gb, 0, none⟩) n 0 = A6 at *
        go_wp2_with fail
        refine S3.out.mono ?_
        rintro e w5 ⟨m5, rfl, rfl⟩
        go_wp2
        go_ret
        exact ⟨rfl, below_drewN HB4.out _⟩

/-- TAPESTRETCHES. -/
theorem stretches_walk (bs : List Nat) (A : Option Addr) (c : Nat) (n k : Int) (w : World) (hv : VarsS w) (hb : Bys w w.heap.size A bs) (hc : bs.length ≤ c) (hAc : A = none → c = 0) (_hn : (Lit.int .i64 n).wf = true) (_hk : (Lit.int .i64 k).wf = true) :
    Calls Tryd.prog 3 #[.slice A bs.length c, .int .i64 n, .int .i64 k] w fun e w' => e = .returned (.bool true) ∧ Below w.heap.size w w' := by
  by_cases h : bs.length ≤ 100
  · by_cases h1 : n < 0 ∨ 1048576 < n
    · exact stretchesBad n k h h1
    · by_cases h2 : 300 < n
      · exact stretchesFar n k h h2 (by omega)
      · obtain ⟨m, rfl⟩ : ∃ m : Nat, n = (m : Int) := ⟨n.toNat, by omega⟩
        exact stretches_few w hv rfl hb hc hAc h m (by omega) k
  · exact stretchesSeed n k (by omega)
end
end Go.Proofs.YtmookhbijmibiaaDoor
