/-
  Contracts of the reference's flip, List, Key, Tag and Next. Conditions: the key has at most 200 bytes, the text at most 3000 (the reference's sum is walked up to 4000 bytes).
  Contracts of the reference's Tag and Next. Conditions: the key has at most 200 bytes, the text at most 3000, an item at most 100 (the reference's sum is walked up to 4000 bytes).
-/
import Derived.Test.YtihpjkidoingfaaDoorHmNum
import Derived.Test.YtihpjkidoingfaaDoorShaSumsWalk
import Derived.Deep.CutRange
namespace Go.Proofs.YtihpjkidoingfaaDoor
open Go.RowKit Arr Sh Hm

/-- What a call leaves that hands a row of bytes of its own back. -/
def OwnB (bs : List Nat) (w : World) (e : Ending) (w' : World) : Prop :=
  ∃ v, e = .returned v ∧ w'.ownsRow w.heap.size 5 1 v bs.length (vals .u8 bs) ∧ Below w.heap.size w w'

theorem flip_any (x b : Nat) (hx : x < 256) (hb : b < 256) (w : World) : Calls Tryd.prog 31 #[.int .u8 (x : Int), .int .u8 (b : Int)] w fun e w' => e = .returned (.int .u8 ((x ^^^ b : Nat) : Int)) ∧ w' = w := by
  have h := u8_xor_nat x b hx hb
  go_enter Tryd.func31, Tryd.ntmps31
  go_wp2
  go_ret
  exact ⟨rfl, rfl⟩

set_option maxHeartbeats 1000000 in
theorem list_any (l : List Nat) (hl : l.length = 32) (w : World) : Calls Tryd.prog 16 #[.agg (na .u8 l)] w (OwnB l w) := by
  have s1 : (w.alloc (.cells (na .u8 l) 43)).heap.size = w.heap.size + 1 := World.size_alloc ..
  have H1 := Lib.hid (Holds.new w 43 .u8 l)
  have B1 := Lib.hid (below_alloc w (.cells (na .u8 l) 43))
  have S1 := Lib.hid s1
  have HL := Lib.hid hl
  clear s1 hl
  go_enter Tryd.func16, Tryd.ntmps16
  go_upto_region 1 with fail
  generalize w.alloc (.cells (na .u8 l) 43) = w1 at *
  have hlt := S1.out
  go_wp2_with fail
  go_loopw [3, 4] (fun v i wr => ∃ t : Nat, t ≤ 32 ∧ i = .int .i64 (t : Nat) ∧ wr.ownsRow w1.heap.size 5 1 v t (vals .u8 (l.take t)) ∧ Holds wr w.heap.size .u8 l ∧ Below w1.heap.size w1 wr) (fun _ i _ => 32 - (intOf i).toNat)
  case atStart => exact ⟨0, by omega, rfl, World.ownsRow_nil w1 w1.heap.size 5 1, H1.out, Below.refl _ _⟩
  case round =>
    clear H1
    obtain ⟨t, ht, rfl, ho, hh, hb⟩ := hrel
    have HO := Lib.hid ho
    have HH := Lib.hid hh
    have HB := Lib.hid hb
    have hsz := hb.size
    by_cases hlt2 : t < 32
    · have tt : decide ((t : Int) < 32) = true := by simp; omega
      have ti : (t : Int) < 32 := by omega
      have c1 := hh.cell t (by rw [HL.out]; exact hlt2)
      have HTK := Lib.hid (take_snoc l t (by rw [HL.out]; exact hlt2))
      clear ho hh hb
      generalize l.getD t 0 = x at *
      go_wp2_with (at_builtin; refine append_one rfl (.tmp 9) (.tmp 13) 22 rfl w1.heap.size 5 (.int .u8 0) 1 Tryd.underlying22 info_u8 rfl _ t _ (.int .u8 (x : Int)) rfl HO.out rfl rfl (by omega) (by omega) hsz ?_; intro v' w2 hown2 hbel2)
      go_roundw
      case rel => exact ⟨t + 1, by omega, by go_num, by rw [HTK.out, vals_snoc]; exact hown2, HH.out.below hbel2 (by omega), HB.out.trans hbel2⟩
      case measure => simp [intOf]; omega
    · have et : (t : Int) = 32 := by omega
      obtain rfl : t = 32 := by omega
      clear et ho hh hb
      have hfull : l.take 32 = l := List.take_of_length_le (by rw [HL.out]; omega)
      rw [hfull] at HO
      clear hfull
      go_wp2
      go_ret
      refine ⟨_, rfl, ?_, B1.out.trans (HB.out.mono (by omega))⟩
      rw [HL.out]
      have h := HO.out
      exact ⟨h.1, h.2.imp id (fun ⟨g, cap, cur, e, hg, r⟩ => ⟨g, cap, cur, e, by omega, r⟩)⟩

/-- The key's own bytes, as the reference takes them: its own, or its sum's. -/
def kk (k : List Nat) : List Nat := if 64 < k.length then Sh.sum k else k
theorem kk_len (k : List Nat) : (kk k).length ≤ 64 := by
  unfold kk
  split
  · rw [length_sum]; omega
  · omega
theorem kk_fill (k : List Nat) : fill k = kk k ++ zs (64 - (kk k).length) := by
  unfold kk
  by_cases h : 64 < k.length
  · rw [if_pos h, fill_long h, length_sum]
  · rw [if_neg h, fill_short h]
theorem kk_get (k : List Nat) (b t : Nat) : (pd b (fill k)).getD t 0 = if t < (kk k).length then (kk k).getD t 0 ^^^ b else if t < 64 then b else 0 := by
  have hl := length_fill k
  by_cases h64 : t < 64
  · rw [pd_get b _ t (by omega)]
    have e := kk_fill k
    by_cases h : t < (kk k).length
    · rw [if_pos h, e]
      congr 1
      rw [List.getD_eq_getElem?_getD, List.getElem?_append_left h, ← List.getD_eq_getElem?_getD]
    · rw [if_neg h, if_pos h64, e]
      have : (kk k ++ zs (64 - (kk k).length)).getD t 0 = 0 := by
        rw [List.getD_eq_getElem?_getD, List.getElem?_append_right (by omega), ← List.getD_eq_getElem?_getD]
        exact zs_get _ _
      rw [this, Nat.zero_xor]
  · have h1 : ¬ t < (kk k).length := by have := kk_len k; omega
    rw [if_neg h1, if_neg h64]
    simp [length_pd, hl, h64]

set_option maxHeartbeats 2000000 in
theorem key_any (bs : List Nat) (A : Option Addr) (n c : Nat) (hl : bs.length = n) (hn : n ≤ 200) (hAc : A = none → c = 0) (b : Nat) (hb : b < 256) (w : World) (hk : Bys w w.heap.size A bs) :
    Calls Tryd.prog 23 #[.slice A n c, .int .u8 (b : Int)] w (OwnB (pd b (fill bs)) w) := by
  have LP : (pd b (fill bs)).length = 64 := by rw [length_pd, length_fill]
  have KL := kk_len bs
  have GK := Lib.hid (kk_get bs b)
  have KB : Go.RowKit.Hid (∀ x, x ∈ kk bs → x < 256) := Lib.hid (by
    unfold kk
    split
    · exact sum_lt _
    · exact hk.1)
  have HKb := Lib.hid hk
  have HL := Lib.hid hl
  clear hk hl
  go_enter Tryd.func23, Tryd.ntmps23
  go_upto_if 13 with fail
  go_cut [5, 6, 7] from 13 to 25 (fun v _ _ wx => ∃ A5 c5, v = .slice A5 (kk bs).length c5 ∧ Bys wx wx.heap.size A5 (kk bs) ∧ Below w.heap.size w wx)
  case first =>
    by_cases hlong : 64 < n
    · have t1 : decide ((n : Int) > 64) = true := by simp; omega
      have t2 : decide (64 < (n : Int)) = true := by simp; omega
      have C1 := Lib.hid (rsum5_any bs A n c HL.out (by omega) hAc w HKb.out)
      have LS := length_sum bs
      have EK : Go.RowKit.Hid (kk bs = Sh.sum bs) := Lib.hid (by unfold kk; rw [if_pos (by rw [HL.out]; exact hlong)])
      have SB := Lib.hid (sum_lt bs)
      clear GK KB
      generalize Sh.sum bs = sm at *
      go_wp2_with fail
      refine C1.out.mono ?_
      rintro e w2 ⟨rfl, hB2⟩
      have A1 := Holds.new w2 43 .u8 (zs 32)
      have A2 := A1.put sm (by rw [LS, length_zs])
      have A3 := below_setCells (b := w2.heap.size) hB2.size (nv .u8 sm) 0 _ (hB2.alloc hB2.size (.cells (na .u8 (zs 32)) 43))
      have s3 : ((w2.alloc (.cells (na .u8 (zs 32)) 43)).setCells w2.heap.size 0 (nv .u8 sm)).heap.size = w2.heap.size + 1 := by rw [size_setCells, World.size_alloc]
      have H1 := Lib.hid A1
      have H2 := Lib.hid A2
      have H3 := Lib.hid A3
      have S3 := Lib.hid s3
      clear A1 A2 A3 s3 hB2 C1
      go_upto_region 4 with (first | (with_reducible refine Arr.alloc (t := 43) _ z32 ?_) | (with_reducible refine Arr.store o32 w2.heap.size (zs 32) sm (length_zs _) H1.out LS rfl rfl ?_) | fail)
      generalize (w2.alloc (.cells (na .u8 (zs 32)) 43)).setCells w2.heap.size 0 (nv .u8 sm) = w3 at *
      have hs3 := S3.out
      clear H1
      generalize w2.heap.size = g at *
      go_wp2_with fail
      go_loopw [5, 7] (fun v i wr => ∃ t : Nat, t ≤ 32 ∧ i = .int .i64 (t : Nat) ∧ wr.ownsRow w3.heap.size 5 1 v t (vals .u8 (sm.take t)) ∧ Holds wr g .u8 sm ∧ Below w3.heap.size w3 wr) (fun _ i _ => 32 - (intOf i).toNat)
      case atStart => exact ⟨0, by omega, rfl, World.ownsRow_nil w3 w3.heap.size 5 1, H2.out, Below.refl _ _⟩
      case round =>
        clear H2
        obtain ⟨t, ht, rfl, ho, hh, hb⟩ := hrel
        have HO := Lib.hid ho
        have HH := Lib.hid hh
        have HB := Lib.hid hb
        have hsz := hb.size
        by_cases hlt2 : t < 32
        · have tt : decide ((t : Int) < 32) = true := by simp; omega
          have ti : (t : Int) < 32 := by omega
          have c1 := hh.cell t (by rw [LS]; exact hlt2)
          have HTK := Lib.hid (take_snoc sm t (by rw [LS]; exact hlt2))
          clear ho hh hb
          generalize sm.getD t 0 = x at *
          go_wp2_with (at_builtin; refine append_one rfl (.tmp 20) (.tmp 24) 22 rfl w3.heap.size 5 (.int .u8 0) 1 Tryd.underlying22 info_u8 rfl _ t _ (.int .u8 (x : Int)) rfl HO.out rfl rfl (by omega) (by omega) hsz ?_; intro v' w4 hown2 hbel2)
          go_roundw
          case rel => exact ⟨t + 1, by omega, by go_num, by rw [HTK.out, vals_snoc]; exact hown2, HH.out.below hbel2 (by omega), HB.out.trans hbel2⟩
          case measure => simp [intOf]; omega
        · have et : (t : Int) = 32 := by omega
          obtain rfl : t = 32 := by omega
          clear et ho hh hb
          have hfull : sm.take 32 = sm := List.take_of_length_le (by rw [LS]; omega)
          rw [hfull] at HO
          clear hfull
          obtain ⟨A5, c5, rfl, _, hy⟩ := bys_of_owns HO.out SB.out
          have HY := Lib.hid hy
          clear hy HO
          go_wp2
          go_meet
          exact ⟨A5, c5, by rw [EK.out, LS], by rw [EK.out]; exact HY.out, H3.out.trans (HB.out.mono H3.out.size)⟩
    · have t1 : decide ((n : Int) > 64) = false := by simp; omega
      have t2 : decide (64 < (n : Int)) = false := by simp; omega
      have EK : Go.RowKit.Hid (kk bs = bs) := Lib.hid (by unfold kk; rw [if_neg (by rw [HL.out]; exact hlong)])
      go_wp2
      go_meet
      exact ⟨A, c, by rw [EK.out, HL.out], by rw [EK.out]; exact HKb.out, Below.refl _ _⟩
  case rest =>
    obtain ⟨A5, c5, rfl, hk5, hB5⟩ := hcut
    have K5 := Lib.hid hk5
    have B5 := Lib.hid hB5
    have hsw := hB5.size
    clear hk5 hB5 HKb HL hAc hn
    generalize kk bs = ks at *
    generalize pd b (fill bs) = ps at *
    obtain ⟨q, eq⟩ : ∃ q, q = ks.length := ⟨_, rfl⟩
    rw [← eq] at KL GK ⊢
    have EQ := Lib.hid eq
    clear eq
    go_wp2_with fail
    go_loopw [8, 9] (fun v i wr => ∃ t : Nat, t ≤ 64 ∧ i = .int .i64 (t : Nat) ∧ wr.ownsRow wc.heap.size 5 1 v t (vals .u8 (ps.take t)) ∧ Below wc.heap.size wc wr) (fun _ i _ => 64 - (intOf i).toNat)
    case atStart => exact ⟨0, by omega, rfl, World.ownsRow_nil wc wc.heap.size 5 1, Below.refl _ _⟩
    case round =>
      obtain ⟨t, ht, rfl, ho, hbw⟩ := hrel
      have HO := Lib.hid ho
      have HB := Lib.hid hbw
      have hsz := hbw.size
      by_cases hlt2 : t < 64
      · have tt : decide ((t : Int) < 64) = true := by simp; omega
        have HTK := Lib.hid (take_snoc ps t (by rw [LP]; exact hlt2))
        have hg := GK.out t
        by_cases hq : t < q
        · rw [if_pos hq] at hg
          have tq : decide ((t : Int) < (q : Int)) = true := by simp; omega
          have tqi : (t : Int) < (q : Int) := by omega
          obtain ⟨bl, off, rfl, _, hcell⟩ := (K5.out.below hbw).2 (by have := EQ.out; omega)
          have c1 := hcell t (by have := EQ.out; omega)
          have hx := K5.out.lt t
          have C1 := Lib.hid (fun w' => flip_any (ks.getD t 0) b hx hb w')
          rw [hg] at HTK
          clear ho hbw hcell hg GK
          generalize ks.getD t 0 = x at *
          generalize hxb : x ^^^ b = y at *
          clear hxb
          go_wp2_with fail
          refine (C1.out _).mono ?_
          rintro e w2 ⟨rfl, rfl⟩
          go_wp2_with (at_builtin; refine append_one rfl (.tmp 34) (.tmp 41) 22 rfl wc.heap.size 5 (.int .u8 0) 1 Tryd.underlying22 info_u8 rfl _ t _ (.int .u8 (y : Int)) rfl HO.out rfl rfl (by omega) (by omega) hsz ?_; intro v' w4 hown2 hbel2)
          go_roundw
          case rel => exact ⟨t + 1, by omega, by go_num, by rw [HTK.out, vals_snoc]; exact hown2, HB.out.trans hbel2⟩
          case measure => simp [intOf]; omega
        · rw [if_neg hq, if_pos hlt2] at hg
          have tq : decide ((t : Int) < (q : Int)) = false := by simp; omega
          rw [hg] at HTK
          clear ho hbw hg GK
          go_wp2_with (at_builtin; refine append_one rfl (.tmp 43) (.tmp 45) 22 rfl wc.heap.size 5 (.int .u8 0) 1 Tryd.underlying22 info_u8 rfl _ t _ (.int .u8 (b : Int)) rfl HO.out rfl rfl (by omega) (by omega) hsz ?_; intro v' w4 hown2 hbel2)
          go_roundw
          case rel => exact ⟨t + 1, by omega, by go_num, by rw [HTK.out, vals_snoc]; exact hown2, HB.out.trans hbel2⟩
          case measure => simp [intOf]; omega
      · have et : (t : Int) = 64 := by omega
        obtain rfl : t = 64 := by omega
        clear et ho hbw
        have hfull : ps.take 64 = ps := List.take_of_length_le (by omega)
        rw [hfull] at HO
        clear hfull
        go_wp2
        go_ret
        refine ⟨_, rfl, ?_, B5.out.trans (HB.out.mono hsw)⟩
        rw [LP]
        have h := HO.out
        exact ⟨h.1, h.2.imp id (fun ⟨g, cap, cur, e, hg, r⟩ => ⟨g, cap, cur, e, by omega, r⟩)⟩
end Go.Proofs.YtihpjkidoingfaaDoor
namespace Go.Proofs.YtihpjkidoingfaaDoor
open Go.RowKit Arr Sh Hm

/-- A row of bytes of the call's own, as a slice that is not nil. -/
theorem own_slice {w : World} {base n : Nat} {v : Value} {bs : List Nat} (h : w.ownsRow base 5 1 v n (vals .u8 bs)) (hn : 0 < n) (hb : ∀ x, x ∈ bs → x < 256) :
    ∃ A c, v = .slice A n c ∧ bs.length = n ∧ n ≤ c ∧ (A = none → c = 0) ∧ Bys w w.heap.size A bs := by
  obtain ⟨A, c, rfl, hl, hy⟩ := bys_of_owns h hb
  obtain ⟨b, off, rfl, _⟩ := hy.2 (by omega)
  refine ⟨_, c, rfl, hl, ?_, (fun h => by cases h), hy⟩
  rcases h.2 with ⟨he, h0⟩ | ⟨g, cap, cur, he, _, _, h1, _⟩
  · omega
  · injection he with _ _ e3; omega
theorem owns_mono {w : World} {base base' e n : Nat} {v : Value} {xs : List Value} (h : w.ownsRow base e 1 v n xs) (hb : base' ≤ base) : w.ownsRow base' e 1 v n xs :=
  ⟨h.1, h.2.imp id (fun ⟨g, cap, cur, e, hg, r⟩ => ⟨g, cap, cur, e, Nat.le_trans hb hg, r⟩)⟩
theorem lt_append {a b : List Nat} (ha : ∀ x, x ∈ a → x < 256) (hb : ∀ x, x ∈ b → x < 256) : ∀ x, x ∈ a ++ b → x < 256 := fun x hx => by
  rcases List.mem_append.1 hx with h | h
  · exact ha x h
  · exact hb x h

set_option maxHeartbeats 2000000 in
theorem rtag_any (ks : List Nat) (A0 : Option Addr) (n0 c0 : Nat) (h0 : ks.length = n0) (hn0 : n0 ≤ 200) (hA0 : A0 = none → c0 = 0) (bs : List Nat) (A1 : Option Addr) (n1 c1 : Nat) (h1 : bs.length = n1) (hn1 : n1 ≤ 3000) (hA1 : A1 = none → c1 = 0)
    (w : World) (hk : Bys w w.heap.size A0 ks) (hb : Bys w w.heap.size A1 bs) :
    Calls Tryd.prog 17 #[.slice A0 n0 c0, .slice A1 n1 c1] w (GivesB (tag ks bs) w) := by
  have s1 : (w.alloc (.cells (na .u8 (zs 32)) 43)).heap.size = w.heap.size + 1 := World.size_alloc ..
  have R1 := Lib.hid (Holds.new w 43 .u8 (zs 32))
  have B1 := Lib.hid (below_alloc w (.cells (na .u8 (zs 32)) 43))
  have S1 := Lib.hid s1
  have LI := length_inn ks
  have LO := length_outr ks
  have LT := length_tag ks bs
  have ET : Go.RowKit.Hid (tag ks bs = Sh.sum (outr ks ++ Sh.sum (inn ks ++ bs))) := Lib.hid rfl
  have IB := Lib.hid (inn_lt hk.1)
  have OB := Lib.hid (outr_lt hk.1)
  have CK : Go.RowKit.Hid (∀ w', Below w.heap.size w w' → Calls Tryd.prog 23 #[.slice A0 n0 c0, .int .u8 54] w' (OwnB (inn ks) w')) := Lib.hid (fun w' h => key_any ks A0 n0 c0 h0 hn0 hA0 54 (by omega) w' ((hk.below h).more h.size))
  have CO : Go.RowKit.Hid (∀ w', Below w.heap.size w w' → Calls Tryd.prog 23 #[.slice A0 n0 c0, .int .u8 92] w' (OwnB (outr ks) w')) := Lib.hid (fun w' h => key_any ks A0 n0 c0 h0 hn0 hA0 92 (by omega) w' ((hk.below h).more h.size))
  have CS : Go.RowKit.Hid (∀ w' l A n c, l.length = n → n ≤ 4000 → (A = none → c = 0) → Bys w' w'.heap.size A l → Calls Tryd.prog 24 #[.slice A n c] w' (GivesB (Sh.sum l) w')) := Lib.hid (fun w' l A n c e1 e2 e3 e4 => rsum5_any l A n c e1 e2 e3 w' e4)
  have LS := length_sum (inn ks ++ bs)
  have SB := Lib.hid (sum_lt (inn ks ++ bs))
  have HB := Lib.hid hb
  have H1 := Lib.hid h1
  clear s1 hk hb h1 h0
  generalize inn ks = x at *
  generalize outr ks = y at *
  go_enter Tryd.func17, Tryd.ntmps17
  go_upto_region 1 with (first | (with_reducible refine Arr.alloc (t := 43) _ z32 ?_) | fail)
  generalize w.alloc (.cells (na .u8 (zs 32)) 43) = w1 at *
  have hs1 := S1.out
  have C1 := Lib.hid (CK.out w1 B1.out)
  go_wp2_with fail
  refine C1.out.mono ?_
  rintro e w2 ⟨v2, rfl, ho2, hB2⟩
  rw [LI] at ho2
  have O2 := Lib.hid ho2
  have B2 := Lib.hid hB2
  have B2w := Lib.hid (B1.out.trans (hB2.mono (by omega)))
  have hs2 := hB2.size
  clear ho2 hB2 C1
  go_upto_region 3 with (at_builtin; refine append_many rfl (.tmp 9) (.tmp 10) 22 rfl w1.heap.size 5 .u8 1 Tryd.underlying22 info_u8 (by omega) v2 64 x rfl O2.out A1 n1 c1 bs rfl hA1 H1.out w.heap.size (HB.out.below B2w.out).nums (by omega) hs2 ?_; intro v3 w3 hown3 hbel3)
  have B3 := Lib.hid (B2.out.trans hbel3)
  have B3w := Lib.hid (B1.out.trans ((B2.out.trans hbel3).mono (by omega)))
  have O3 := Lib.hid hown3
  have hs3 := B3.out.size
  have C3 := Lib.hid (CO.out w3 B3w.out)
  clear hown3 hbel3 O2 B2 B2w CK CO
  go_wp2_with fail
  refine C3.out.mono ?_
  rintro e w4 ⟨v4, rfl, ho4, hB4⟩
  rw [LO] at ho4
  obtain ⟨A3, c3, rfl, hl3, hc3, hA3, hy3⟩ := own_slice (owns_below O3.out hB4) (by omega) (lt_append IB.out HB.out.1)
  have B4w := Lib.hid (B3w.out.trans (hB4.mono B3w.out.size))
  have B4 := Lib.hid (B3.out.trans (hB4.mono hs3))
  have O4 := Lib.hid (owns_mono ho4 hs3)
  have C4 := Lib.hid (CS.out w4 (x ++ bs) A3 (64 + n1) c3 hl3 (by omega) hA3 hy3)
  clear ho4 hB4 hy3 O3 B3 B3w C3 hl3
  generalize Sh.sum (x ++ bs) = im at *
  go_wp2_with fail
  refine C4.out.mono ?_
  rintro e w5 ⟨rfl, hB5⟩
  have C5 := Lib.hid (list_any im LS w5)
  have O5 := Lib.hid (owns_below O4.out hB5)
  have B5 := Lib.hid (B4.out.trans (hB5.mono B4.out.size))
  have B5w := Lib.hid (B4w.out.trans (hB5.mono B4w.out.size))
  clear O4 B4 B4w hB5 C4
  go_wp2_with fail
  refine C5.out.mono ?_
  rintro e w6 ⟨v6, rfl, ho6, hB6⟩
  rw [LS] at ho6
  obtain ⟨A6, c6, rfl, hl6, hc6, hA6, hy6⟩ := own_slice ho6 (by omega) SB.out
  have O6 := Lib.hid (owns_below O5.out hB6)
  have B6 := Lib.hid (B5.out.trans (hB6.mono B5.out.size))
  have B6w := Lib.hid (B5w.out.trans (hB6.mono B5w.out.size))
  have Y6 := Lib.hid hy6.nums
  have hs6 := B6.out.size
  clear ho6 hB6 hy6 O5 B5 B5w C5
  go_upto_region 5 with (at_builtin; refine append_many rfl (.tmp 14) (.tmp 17) 22 rfl w1.heap.size 5 .u8 1 Tryd.underlying22 info_u8 (by omega) v4 64 y rfl O6.out A6 32 c6 im rfl hA6 hl6 w6.heap.size Y6.out (by omega) hs6 ?_; intro v7 w7 hown7 hbel7)
  obtain ⟨A7, c7, rfl, hl7, hc7, hA7, hy7⟩ := own_slice hown7 (by omega) (lt_append OB.out SB.out)
  have B7 := B6.out.trans hbel7
  have B7w := Lib.hid (B6w.out.trans (hbel7.mono (by omega)))
  have R7 := Lib.hid (R1.out.below B7 (by omega))
  have C7 := Lib.hid (CS.out w7 (y ++ im) A7 (64 + 32) c7 hl7 (by omega) hA7 hy7)
  rw [← ET.out] at C7
  clear hown7 hbel7 hy7 B7 O6 B6 B6w Y6 CS ET
  generalize tag ks bs = tg at *
  go_wp2_with fail
  refine C7.out.mono ?_
  rintro e w8 ⟨rfl, hB8⟩
  have r8 := R7.out.below hB8 (by have := B7w.out.size; have := R7.out.lt (by rw [length_zs]; omega); omega)
  have R8 := Lib.hid r8
  have F1 := Lib.hid (r8.put tg (by rw [LT, length_zs]))
  have F2 := Lib.hid (below_setCells (b := w.heap.size) (Nat.le_refl _) (nv .u8 tg) 0 _ (B7w.out.trans (hB8.mono B7w.out.size)))
  clear r8 hB8 C7 R7
  go_wp2_with (first | (with_reducible refine Arr.store o32 w.heap.size (zs 32) tg (length_zs _) R8.out LT rfl rfl ?_) | fail)
  exact bodyPost_ret (v := .agg (na .u8 tg)) (results_arr o32 rfl _ _ w.heap.size tg LT F1.out rfl) rfl ⟨rfl, F2.out⟩

end Go.Proofs.YtihpjkidoingfaaDoor
