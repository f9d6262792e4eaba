/-
  The walk of the law that what was flushed stays. Conditions: the slices hold what is done, and the list. (Written by tools/gen_dkkeeps.py.)
-/
import Derived.Test.YtfjaiolgbcindaaDkKeepAid
namespace Go.Proofs.Ytfjaiolgbcindaa
open Go.RowKit Arr Dsk
set_option linter.unusedSimpArgs false

set_option maxRecDepth 20000 in
set_option maxHeartbeats 8000000 in
theorem keeps_walk (w : World) (A : Option Addr) (c N : Nat) (its : List It) (hN : its.length = N) (hI : Items w w.heap.size A its) (hs : N ≤ 9223372036854775807) (KA : Option Addr) (kn kc : Nat) (kl : List Bool) (hkn : kl.length = kn) (hk : Bls w (fun b => b < w.heap.size) KA kl) :
    Calls Try.prog 4 #[.slice A N c, .slice KA kn kc] w fun e w' => e = .returned (.bool true) ∧ Below w.heap.size w w' := by
  have CAW := Lib.hid (awake_any w)
  have HI := Lib.hid hI
  have HN := Lib.hid hN
  have HS := Lib.hid hs
  have HKN := Lib.hid hkn
  have HK := Lib.hid hk
  clear hI hN hs hkn hk
  go_enter Try.func4, Try.ntmps4
  go_wp2_with fail
  refine CAW.out.mono ?_
  rintro en w1 ⟨rfl, hB⟩
  have HB1 := Lib.hid hB
  clear hB CAW
  go_wp2_with fail
  refine (crash_nil w1 _).mono ?_
  rintro en wx ⟨rfl, rfl⟩
  go_wp2_with fail
  refine (fuse_nil w1 _ _).mono ?_
  rintro en wx ⟨rfl, rfl⟩
  go_wp2_with fail
  refine (power_nil w1).mono ?_
  rintro en wx ⟨rfl, rfl⟩
  go_wp2_with fail
  refine (read_nil w1 _).mono ?_
  rintro en wx ⟨rfl, rfl⟩
  go_wp2_with fail
  refine (write_nil w1 _ _).mono ?_
  rintro en wx ⟨rfl, rfl⟩
  go_wp2_with fail
  refine (flush_nil w1).mono ?_
  rintro en wx ⟨rfl, rfl⟩
  go_wp2_with fail
  refine (over_nil w1 _ _).mono ?_
  rintro en w2 ⟨rfl, hB⟩
  have HB2 := Lib.hid (HB1.out.trans (hB.mono HB1.out.size))
  clear hB HB1
  go_wp2_with fail
  refine (on_nil w2).mono ?_
  rintro en wx ⟨rfl, rfl⟩
  go_wp2_with fail
  refine (sectors_nil w2).mono ?_
  rintro en wx ⟨rfl, rfl⟩
  go_wp2_with fail
  refine (size_nil w2).mono ?_
  rintro en wx ⟨rfl, rfl⟩
  go_wp2_with fail
  refine (steps_nil w2).mono ?_
  rintro en wx ⟨rfl, rfl⟩
  go_wp2_with fail
  refine (image_nil w2).mono ?_
  rintro en wx ⟨rfl, rfl⟩
  have CF := Lib.hid (few_any w2 A c N its HN.out ⟨fun hp => by obtain ⟨b, off, e, hb, hc⟩ := (HI.out.below HB2.out).cells hp; exact ⟨b, off, e, Nat.lt_of_lt_of_le hb HB2.out.size, hc⟩, fun i hi => by obtain ⟨a1, a2, a3, a4, a5, a6, a7⟩ := (HI.out.below HB2.out).each i hi; exact ⟨a1, a2, a3.more HB2.out.size, a4, a5, a6.touch (F := fun _ => False) (Touch.refl _ _) (fun _ _ h => h) (fun _ _ e => Nat.lt_of_lt_of_le e HB2.out.size), a7⟩⟩ HS.out)
  go_wp2_with fail
  refine CF.out.mono ?_
  rintro en w3 ⟨fb, rfl, hfb, hB⟩
  have HB3 := Lib.hid (HB2.out.trans (hB.mono HB2.out.size))
  have HF := Lib.hid hfb
  clear hB HB2 CF hfb
  cases fb with
  | false =>
    go_wp2
    go_ret
    exact ⟨rfl, HB3.out⟩
  | true =>
    have HFW := Lib.hid (HF.out.1 rfl)
    clear HF
    by_cases hkm : kn > 60
    · have t1 : decide ((kn : Int) > 60) = true := by simp; omega
      go_wp2
      go_ret
      exact ⟨rfl, HB3.out⟩
    · have t1 : decide ((kn : Int) > 60) = false := by simp; omega
      have CN := Lib.hid (new_ok w3 4 32 (by decide) (by decide) (by decide) (by decide) (by decide))
      go_wp2_with fail
      refine CN.out.mono ?_
      rintro en w4 ⟨g, κ, rfl, hd, hlo, hB⟩
      have HM0 := Lib.hid (MayV.fresh w4 κ hd.lt (fun _ => [zs 32]))
      have hba := below_alloc w4 (.cells #[.slice none 0 0, .slice none 0 0, .slice none 0 0, .slice none 0 0] 50)
      have HD0 := Lib.hid (hd.below hba)
      have HB4 := Lib.hid (HB3.out.trans (hB.mono HB3.out.size))
      have HB5 := Lib.hid (HB4.out.trans (hba.mono HB4.out.size))
      have HLO := Lib.hid (show ∀ k, κ k ≠ 0 → w.heap.size ≤ k from fun k hk => Nat.le_trans HB3.out.size (hlo k hk))
      have MK := Lib.hid (fun W => mk32 W)
      clear hd hlo hB hba CN HB3
      go_wp2
      generalize w4.alloc (.cells #[.slice none 0 0, .slice none 0 0, .slice none 0 0, .slice none 0 0] 50) = w5 at *
      have HMB := Lib.hid (show ∀ k, (if k = w4.heap.size then 5 else 0) ≠ 0 → w.heap.size ≤ k from fun k hk => by
        split at hk
        · have := HB4.out.size; omega
        · omega)
      generalize w4.heap.size = mb at *
      clear HB4
      go_loopw [92] (fun i wr => ∃ (k : Nat) (μ : Nat → Nat) (V : Nat → Value), k ≤ 4 ∧ i = .int .i64 k ∧ MayV wr mb κ μ k V (fun _ => [zs 32]) ∧ Dsk wr g κ (St.new 4 32) ∧ (∀ k, μ k ≠ 0 → w.heap.size ≤ k) ∧ Below w.heap.size w wr) (fun i _ => 4 - (intOf i).toNat)
      case atStart => exact ⟨0, _, _, by omega, rfl, HM0.out, HD0.out, HMB.out, HB5.out⟩
      case round =>
        obtain ⟨k, μ, V, hk4, rfl, hm, hd, hlm, hB⟩ := hrel
        by_cases hlt : k < 4
        · have t2 : decide ((k : Int) < 4) = true := by simp; omega
          have wk : IntKind.i64.wrap ((k : Int) + 1) = (k : Int) + 1 := by rw [IntKind.wrap_i64]; omega
          have hmk := MK.out wr
          have hbz := below_alloc wr (.cells (na .u8 (zs 32)) 5)
          have hsz : (wr.alloc (.cells (na .u8 (zs 32)) 5)).heap.size = wr.heap.size + 1 := by simp
          have hbz2 := hbz.alloc hbz.size (.cells #[.slice (some ⟨wr.heap.size, 0, none⟩) 32 32] 32)
          have cm := (hbz2.cell (p := ⟨mb, k, none⟩) hm.ml).trans (hm.cell k hlt)
          have fm := (hbz2.frozen (p := ⟨mb, k, none⟩) hm.ml).trans (hm.free k)
          obtain ⟨μ', m1, m2, m3⟩ := hm.begin hlt hd.lt
          have HR := Lib.hid (And.intro m1 (And.intro (hd.touch m2 (fun k hk hx => hk (hm.dis k hx))) (And.intro (show ∀ k, μ' k ≠ 0 → w.heap.size ≤ k from fun k hk => by
            by_cases hkw : k < wr.heap.size
            · rw [m3 k hkw] at hk; exact hlm k hk
            · have := hB.size; omega) (hB.trans (m2.below hlm hB.size)))))
          clear m1 m2 m3 hm hd hlm hB hbz hbz2
          go_wp2
          go_roundw
          case rel => exact ⟨k + 1, _, _, by omega, by go_num, HR.out.1, HR.out.2.1, HR.out.2.2.1, HR.out.2.2.2⟩
          case measure => simp [intOf]; omega
        · have t2 : decide ((k : Int) < 4) = false := by simp; omega
          have P0 := Lib.hid (show Play w wr g mb κ μ (St.new 4 32) V (ms (St.new 4 32)) from by
            have e4 : k = 4 := by omega
            subst e4
            exact ⟨hd, hm.congr (fun i hi => (ms_new i hi).symm), HLO.out, hlm, hB⟩)
          clear hm hd hlm hB HM0 HD0 HMB HB5 MK HLO
          go_wp2
          go_loopw [102] (fun i wr => ∃ (k : Nat) (s : St) (κ μ : Nat → Nat) (V : Nat → Value), k ≤ N ∧ i = .int .i64 k ∧ Play w wr g mb κ μ s V (ms s) ∧ Quiet s k) (fun i _ => N - (intOf i).toNat)
          case atStart => exact ⟨0, _, κ, μ, V, Nat.zero_le _, rfl, P0.out, Quiet.new⟩
          case round =>
            clear P0
            obtain ⟨k, s, κ, μ, V, hk, rfl, hP, hQ⟩ := hrel
            have HP := Lib.hid hP
            have HQ := Lib.hid hQ
            by_cases hlt : k < N
            · have hki : k < its.length := by rw [HN.out]; exact hlt
              obtain ⟨b, off, rfl, hb, hc⟩ := (HI.out.below hP.bel).cells (by omega)
              obtain ⟨q0, q1, q2, q3⟩ := hc k hki
              obtain ⟨e1, e2, e3, e4, e5, e6, e7⟩ := HI.out.each k hki
              have t2 : decide ((k : Int) < (N : Int)) = true := by simp; omega
              have hk60 : k ≤ 60 := by
                have h60 := HFW.out.1
                rw [HN.out] at h60; omega
              have wk : IntKind.i64.wrap ((k : Int) + 1) = (k : Int) + 1 := by rw [IntKind.wrap_i64]; omega
              have E1 := Lib.hid e1
              have E2 := Lib.hid e2
              have E3 := Lib.hid e3
              have hL300 := (HFW.out.2 k hki).1
              clear hc e1 e2 e3 e4 e5 e6 e7 hP hQ
              generalize its[k] = it at *
              obtain ⟨x0, x1, x3, x4, ys, x5, x6, zs5⟩ := it
              simp only at q0 q1 q2 q3 E1 E2 E3 hL300
              obtain ⟨L, hL⟩ : ∃ L, L = ys.length := ⟨_, rfl⟩
              obtain ⟨L5, hL5⟩ : ∃ L, L = zs5.length := ⟨_, rfl⟩
              have HYL := Lib.hid hL
              rw [← hL] at q2
              rw [← hL5] at q3
              clear hL hL5
              have hba := below_alloc wr (.cells #[.int .i64 x0, .int .i64 x1, .slice x3 L x4, .slice x5 L5 x6] 35)
              have P1 := Lib.hid (HP.out.below hba)
              have D4 := Lib.hid (four_cells wr (.int .i64 x0) (.int .i64 x1) (.slice x3 L x4) (.slice x5 L5 x6))
              have hnb : κ wr.heap.size = 0 ∧ μ wr.heap.size = 0 := ⟨by
                by_cases h0 : κ wr.heap.size = 0
                · exact h0
                · have := HP.out.dsk.lt _ h0; omega, by
                by_cases h0 : μ wr.heap.size = 0
                · exact h0
                · have := HP.out.may.lt _ h0; omega⟩
              have HNB := Lib.hid hnb
              have hnl : wr.heap.size < (wr.alloc (.cells #[.int .i64 x0, .int .i64 x1, .slice x3 L x4, .slice x5 L5 x6] 35)).heap.size := by simp
              have HNL := Lib.hid hnl
              clear hba hnb hnl HP
              by_cases k1 : x0 = 1
              · subst k1
                have t3 : ((1 : Int) == 1) = true := rfl
                have CW := Lib.hid (write_any P1.out.dsk (by have := HQ.out.steps; omega) x1 x3 L x4 ys HYL.out.symm (P1.out.out E3.out).left)
                have X1 := Lib.hid (P1.out.out E3.out)
                have HW := Lib.hid (HQ.out.write x1 ys)
                by_cases hr : (s.write x1 ys).2 = 0
                · obtain ⟨_, i1, i2, i3, i4⟩ : (s.write x1 ys).2 = 0 ∧ 0 ≤ x1 ∧ x1 < 4 ∧ ys.length = 32 ∧ (s.write x1 ys).1 = s.count.add x1.toNat ys := by
                    rcases HW.out with h | h
                    · exact absurd hr h.1
                    · exact h
                  rw [hr, i4] at CW
                  obtain ⟨si, rfl⟩ : ∃ si : Nat, x1 = (si : Int) := ⟨x1.toNat, by omega⟩
                  rw [Int.toNat_natCast] at CW
                  have hsi : si < 4 := by omega
                  have HML := Lib.hid (show (ms s si).length ≤ 4294967295 from by have := ms_len s si; have := P1.out.dsk.wf.ws; have := HQ.out.steps; omega)
                  have HQ2 := Lib.hid (HQ.out.added si ys)
                  have HMS := Lib.hid (show ∀ j, upd (ms s) si (ms s si ++ [ys]) j = ms (s.count.add si ys) j from fun j => by
                    rw [ms_add]; unfold upd
                    by_cases e : j = si
                    · subst e; simp
                    · simp [e])
                  clear HW hr i1 i2 i3 i4 HQ
                  go_wp2_with fail
                  generalize wr.alloc (.cells #[.int .i64 1, .int .i64 (si : Int), .slice x3 L x4, .slice x5 L5 x6] 35) = w6 at *
                  generalize wr.heap.size = nb at *
                  refine CW.out.mono ?_
                  rintro en w7 hp
                  obtain ⟨rfl, hT, κ7, hP7⟩ := P1.out.disk hp
                  have p1 := (hT.cell (p := ⟨nb, 1, none⟩) HNL.out (fun h => h HNB.out.1)).trans D4.out.2.1
                  have p2 := (hT.cell (p := ⟨nb, 2, none⟩) HNL.out (fun h => h HNB.out.1)).trans D4.out.2.2.1
                  have X7 := Lib.hid (hP7.out E3.out)
                  have P7 := Lib.hid hP7
                  clear hp hT hP7 CW P1 D4 X1 q0 q1 q2 q3
                  have cm : w7.cell? ⟨mb, si, none⟩ = some (V si) := P7.out.may.cell si hsi
                  have hs4 : (si : Int) < 4 := by omega
                  have hand : bits .and .i64 (si : Int) 3 = (si : Int) := by
                    match si, hsi with
                    | 0, _ => rfl
                    | 1, _ => rfl
                    | 2, _ => rfl
                    | 3, _ => rfl
                  go_wp2
                  refine wp_region_L [(11, (fun w' => w'.cell? ⟨nb, 1, none⟩ = some (.int .i64 (si : Int)) ∧ w'.cell? ⟨nb, 2, none⟩ = some (.slice x3 L x4) ∧ w'.cell? ⟨mb, si, none⟩ = some (V si))), (13, (fun w' => w'.cell? ⟨nb, 1, none⟩ = some (.int .i64 (si : Int))))] 14 #[false, false, false, false, false, false, false, false, false, false, false, false, false, false] (by kernel_rfl) (by rfl) (by kernel_rfl) (by intro p hp; simp only [List.mem_cons, List.not_mem_nil, or_false] at hp; rcases hp with rfl | rfl; exact ⟨p1, p2, cm⟩; exact p1) (fun hHeld => ?_)
                  refine wpAnyL_take (i := 0) (v := ?_) rfl (by kernel_rfl) (by kernel_rfl) (by kernel_rfl) (by rfl) (fun _ _ _ h => h) (Or.inl ⟨by rfl, ?_⟩) hHeld (fun hHeld2 => ?_)
                  rotate_left
                  · (intro wz hSw; go_simp; try with_reducible rfl)
                  clear hHeld; have hHeld := hHeld2; clear hHeld2
                  try simp only [List.getElem_toArray, List.getElem_cons_zero, List.getElem_cons_succ, Act.put, List.setIfInBounds_toArray, List.set_cons_zero, List.set_cons_succ]
                  refine wpAnyL_take (i := 1) (v := ?_) rfl (by kernel_rfl) (by kernel_rfl) (by kernel_rfl) (by rfl) (fun _ _ _ h => h) (Or.inl ⟨by rfl, ?_⟩) hHeld (fun hHeld2 => ?_)
                  rotate_left
                  · (intro wz hSw; have hq : wz.cell? ⟨nb, 1, none⟩ = some (.int .i64 (si : Int)) := hSw.get _ (List.Mem.tail _ (List.Mem.head _)) 9 (by kernel_rfl); go_simp; try with_reducible rfl)
                  clear hHeld; have hHeld := hHeld2; clear hHeld2
                  try simp only [List.getElem_toArray, List.getElem_cons_zero, List.getElem_cons_succ, Act.put, List.setIfInBounds_toArray, List.set_cons_zero, List.set_cons_succ]
                  refine wpAnyL_take (i := 2) (v := ?_) rfl (by kernel_rfl) (by kernel_rfl) (by kernel_rfl) (by rfl) (fun _ _ _ h => h) (Or.inl ⟨by rfl, ?_⟩) hHeld (fun hHeld2 => ?_)
                  rotate_left
                  · (intro wz hSw; go_simp; try with_reducible rfl)
                  clear hHeld; have hHeld := hHeld2; clear hHeld2
                  try simp only [List.getElem_toArray, List.getElem_cons_zero, List.getElem_cons_succ, Act.put, List.setIfInBounds_toArray, List.set_cons_zero, List.set_cons_succ]
                  refine wpAnyL_take (i := 3) (v := ?_) rfl (by kernel_rfl) (by kernel_rfl) (by kernel_rfl) (by rfl) (fun _ _ _ h => h) (Or.inl ⟨by rfl, ?_⟩) hHeld (fun hHeld2 => ?_)
                  rotate_left
                  · (intro wz hSw; go_simp; try with_reducible rfl)
                  clear hHeld; have hHeld := hHeld2; clear hHeld2
                  try simp only [List.getElem_toArray, List.getElem_cons_zero, List.getElem_cons_succ, Act.put, List.setIfInBounds_toArray, List.set_cons_zero, List.set_cons_succ]
                  refine wpAnyL_take (i := 4) (v := ?_) rfl (by kernel_rfl) (by kernel_rfl) (by kernel_rfl) (by rfl) (fun _ _ _ h => h) (Or.inl ⟨by rfl, ?_⟩) hHeld (fun hHeld2 => ?_)
                  rotate_left
                  · (intro wz hSw; have hq : wz.cell? ⟨nb, 1, none⟩ = some (.int .i64 (si : Int)) ∧ wz.cell? ⟨nb, 2, none⟩ = some (.slice x3 L x4) ∧ wz.cell? ⟨mb, si, none⟩ = some (V si) := hSw.get _ (List.Mem.head _) 9 (by kernel_rfl); obtain ⟨hq1, hq2, hq3⟩ := hq; go_simp; try with_reducible rfl)
                  clear hHeld; have hHeld := hHeld2; clear hHeld2
                  try simp only [List.getElem_toArray, List.getElem_cons_zero, List.getElem_cons_succ, Act.put, List.setIfInBounds_toArray, List.set_cons_zero, List.set_cons_succ]
                  refine wpAnyL_take (i := 5) (v := ?_) rfl (by kernel_rfl) (by kernel_rfl) (by kernel_rfl) (by rfl) (fun _ _ _ h => h) (Or.inl ⟨by rfl, ?_⟩) hHeld (fun hHeld2 => ?_)
                  rotate_left
                  · (intro wz hSw; go_simp; try with_reducible rfl)
                  clear hHeld; have hHeld := hHeld2; clear hHeld2
                  try simp only [List.getElem_toArray, List.getElem_cons_zero, List.getElem_cons_succ, Act.put, List.setIfInBounds_toArray, List.set_cons_zero, List.set_cons_succ]
                  refine wpAnyL_take (i := 6) (v := ?_) rfl (by kernel_rfl) (by kernel_rfl) (by kernel_rfl) (by rfl) (fun _ _ _ h => h) (Or.inl ⟨by rfl, ?_⟩) hHeld (fun hHeld2 => ?_)
                  rotate_left
                  · (intro wz hSw; go_simp; try with_reducible rfl)
                  clear hHeld; have hHeld := hHeld2; clear hHeld2
                  try simp only [List.getElem_toArray, List.getElem_cons_zero, List.getElem_cons_succ, Act.put, List.setIfInBounds_toArray, List.set_cons_zero, List.set_cons_succ]
                  refine wpAnyL_take (i := 7) (v := ?_) rfl (by kernel_rfl) (by kernel_rfl) (by kernel_rfl) (by rfl) (fun _ _ _ h => h) (Or.inl ⟨by rfl, ?_⟩) hHeld (fun hHeld2 => ?_)
                  rotate_left
                  · (intro wz hSw; have hq : wz.cell? ⟨nb, 1, none⟩ = some (.int .i64 (si : Int)) ∧ wz.cell? ⟨nb, 2, none⟩ = some (.slice x3 L x4) ∧ wz.cell? ⟨mb, si, none⟩ = some (V si) := hSw.get _ (List.Mem.head _) 9 (by kernel_rfl); obtain ⟨hq1, hq2, hq3⟩ := hq; go_simp; try with_reducible rfl)
                  clear hHeld; have hHeld := hHeld2; clear hHeld2
                  try simp only [List.getElem_toArray, List.getElem_cons_zero, List.getElem_cons_succ, Act.put, List.setIfInBounds_toArray, List.set_cons_zero, List.set_cons_succ]
                  refine wpAnyL_take (i := 8) (v := ?_) rfl (by kernel_rfl) (by kernel_rfl) (by kernel_rfl) (by rfl) (fun _ _ _ h => h) (Or.inl ⟨by rfl, ?_⟩) hHeld (fun hHeld2 => ?_)
                  rotate_left
                  · (intro wz hSw; go_simp; try with_reducible rfl)
                  clear hHeld; have hHeld := hHeld2; clear hHeld2
                  try simp only [List.getElem_toArray, List.getElem_cons_zero, List.getElem_cons_succ, Act.put, List.setIfInBounds_toArray, List.set_cons_zero, List.set_cons_succ]
                  refine wpAnyL_take (i := 9) (v := ?_) rfl (by kernel_rfl) (by kernel_rfl) (by kernel_rfl) (by rfl) (fun _ _ _ h => h) (Or.inl ⟨by rfl, ?_⟩) hHeld (fun hHeld2 => ?_)
                  rotate_left
                  · (intro wz hSw; have hq : wz.cell? ⟨nb, 1, none⟩ = some (.int .i64 (si : Int)) ∧ wz.cell? ⟨nb, 2, none⟩ = some (.slice x3 L x4) ∧ wz.cell? ⟨mb, si, none⟩ = some (V si) := hSw.get _ (List.Mem.head _) 9 (by kernel_rfl); obtain ⟨hq1, hq2, hq3⟩ := hq; go_simp; try with_reducible rfl)
                  clear hHeld; have hHeld := hHeld2; clear hHeld2
                  try simp only [List.getElem_toArray, List.getElem_cons_zero, List.getElem_cons_succ, Act.put, List.setIfInBounds_toArray, List.set_cons_zero, List.set_cons_succ]
                  have hba8 := below_alloc w7.drew (.cells #[.slice x3 L x4] 32)
                  have r1 := (hba8.cell (p := ⟨nb, 1, none⟩) (lt_of_cell p1)).trans p1
                  have r2 := (hba8.cell (p := ⟨nb, 2, none⟩) (lt_of_cell p2)).trans p2
                  have r3 := (hba8.cell (p := ⟨mb, si, none⟩) (lt_of_cell cm)).trans cm
                  have PD := Lib.hid (P7.out.below (below_drewN_self w7 1))
                  refine wpAnyL_one (i := 10) (by kernel_rfl) rfl rfl hHeld (fun K hK => ?_)
                  go_simp
                  refine hK.out _ _ (by intro p hp hl; simp only [List.mem_cons, List.not_mem_nil, or_false] at hp; rcases hp with rfl | rfl; exact ⟨r1, r2, r3⟩; exact r1) (fun hHeld2 => ?_)
                  clear hHeld hK K ; have hHeld := hHeld2; clear hHeld2
                  try simp only [List.getElem_toArray, List.getElem_cons_zero, List.getElem_cons_succ, Act.put, List.setIfInBounds_toArray, List.set_cons_zero, List.set_cons_succ]
                  obtain ⟨v8, w8, hr8, c8, f8, ⟨A8, n8, cc8, rfl⟩, μ8, m8, t8, u8⟩ := PD.out.may.append PD.out.dsk.lt si hsi x3 x4 ys (by exact E1.out) E2.out ((X7.out.touch (F := fun _ => False) (ok' := fun b => κ7 b = 0 ∧ μ b = 0) (touch_none _ w7 1) (fun _ _ h => h) (fun _ _ e => e))) HML.out
                  rw [← HYL.out] at hr8
                  have PF := Lib.hid ((PD.out.row m8 t8 u8).congr (fun j _ => HMS.out j))
                  have n1 : w8.cell? ⟨nb, 1, none⟩ = some (.int .i64 (si : Int)) := by
                    have hn := t8.cell (p := ⟨nb, 1, none⟩) (lt_of_cell p1) (fun h => h HNB.out.2)
                    rw [World.cell?_setCell_other _ _ _ _ (fun e => by have e' : mb = nb := congrArg Addr.block e; have h5 := PD.out.may.m5; rw [e', HNB.out.2] at h5; omega)] at hn
                    exact hn.trans p1
                  clear m8 t8 u8
                  refine wpAnyL_one (i := 11) (by kernel_rfl) rfl rfl hHeld (fun K hK => ?_)
                  refine wp_app (.tmp 124) (.tmp 127) 37 rfl (V si) _ rfl rfl hr8 ?_
                  refine hK.out _ _ (by intro p hp hl; simp only [List.mem_cons, List.not_mem_nil, or_false] at hp; rcases hp with rfl | rfl; exact Bool.noConfusion (hl.symm.trans (show _ = true by kernel_rfl)); exact n1) (fun hHeld2 => ?_)
                  clear hHeld hK K hr8 r1 r2 r3 hba8 p1 p2 cm PD; have hHeld := hHeld2; clear hHeld2
                  try simp only [List.getElem_toArray, List.getElem_cons_zero, List.getElem_cons_succ, Act.put, List.setIfInBounds_toArray, List.set_cons_zero, List.set_cons_succ]
                  refine wpAnyL_one (i := 12) (by kernel_rfl) rfl rfl hHeld (fun K hK => ?_)
                  go_simp
                  refine hK.out _ _ (by intro p hp hl; simp only [List.mem_cons, List.not_mem_nil, or_false] at hp; rcases hp with rfl | rfl; exact Bool.noConfusion (hl.symm.trans (show _ = true by kernel_rfl)); exact n1) (fun hHeld2 => ?_)
                  clear hHeld hK K ; have hHeld := hHeld2; clear hHeld2
                  try simp only [List.getElem_toArray, List.getElem_cons_zero, List.getElem_cons_succ, Act.put, List.setIfInBounds_toArray, List.set_cons_zero, List.set_cons_succ]
                  refine wpAnyL_one (i := 13) (by kernel_rfl) rfl rfl hHeld (fun K hK => ?_)
                  go_simp
                  refine hK.out _ _ (by intro p hp hl; simp only [List.mem_cons, List.not_mem_nil, or_false] at hp; rcases hp with rfl | rfl <;> exact Bool.noConfusion (hl.symm.trans (show _ = true by kernel_rfl))) (fun hHeld2 => ?_)
                  clear hHeld hK K hHeld2
                  try simp only [List.getElem_toArray, List.getElem_cons_zero, List.getElem_cons_succ, Act.put]
                  refine wpAnyL_done (by kernel_rfl) ?_ _
                  clear c8 f8 hand n1
                  go_wp2
                  go_roundw
                  case rel => exact ⟨k + 1, _, κ7, μ8, _, by omega, by go_num, PF.out, HQ2.out⟩
                  case measure => simp [intOf]; omega
                · have i4 : (s.write x1 ys).1 = s := by
                    rcases HW.out with h | h
                    · exact h.2
                    · exact absurd h.1 hr
                  rw [i4] at CW
                  have t4 : (((s.write x1 ys).2 : Int) == 0) = false := by simp; omega
                  clear HW hr i4 X1
                  generalize (s.write x1 ys).2 = r at *
                  go_wp2_with fail
                  generalize wr.alloc (.cells #[.int .i64 1, .int .i64 x1, .slice x3 L x4, .slice x5 L5 x6] 35) = w6 at *
                  generalize wr.heap.size = nb at *
                  refine CW.out.mono ?_
                  rintro en w7 hp
                  obtain ⟨rfl, _, κ7, hP7⟩ := P1.out.disk hp
                  have P7 := Lib.hid hP7
                  clear hp hP7 CW P1 D4 q0 q1 q2 q3
                  go_wp2
                  go_roundw
                  case rel => exact ⟨k + 1, s, κ7, μ, V, by omega, by go_num, P7.out, HQ.out.more⟩
                  case measure => simp [intOf]; omega
              · have t3 : (x0 == 1) = false := by simp; omega
                by_cases k3 : x0 = 3
                · subst k3
                  have t4 : ((3 : Int) == 3) = true := rfl
                  have CFL := Lib.hid (flush_any P1.out.dsk (by have := HQ.out.steps; omega))
                  rw [HQ.out.flush] at CFL
                  have HQ2 := Lib.hid HQ.out.flushed
                  have hkl : s.kept.length = 4 := by rw [P1.out.dsk.wf.kl]; exact HQ.out.n
                  have HML := Lib.hid (show ∀ j, (ms s j).length ≤ 100 from fun j => by have := ms_len s j; have := P1.out.dsk.wf.ws; have := HQ.out.steps; omega)
                  have HMF := Lib.hid (show ∀ j, j < 4 → ms s.count.flushed j = [s.last j] from fun j hj => ms_flush s j (by omega))
                  clear HQ E1 E2 E3 HYL hL300 hkl
                  generalize hs1 : s.count.flushed = s1 at *
                  clear hs1
                  go_wp2_with fail
                  generalize wr.alloc (.cells #[.int .i64 3, .int .i64 x1, .slice x3 L x4, .slice x5 L5 x6] 35) = w6 at *
                  generalize wr.heap.size = nb at *
                  refine CFL.out.mono ?_
                  rintro en w7 hp
                  obtain ⟨rfl, _, κ7, hP7⟩ := P1.out.disk hp.p
                  have m0 := hP7.may.cell 0 (by omega)
                  have m1 := hP7.may.cell 1 (by omega)
                  have m2 := hP7.may.cell 2 (by omega)
                  have m3 := hP7.may.cell 3 (by omega)
                  have P7 := Lib.hid hP7
                  have IX := Lib.hid (fun (r : Nat) (hr : r < 4) (W : World) => index4 V r hr W)
                  clear hp hP7 CFL P1 D4 q0 q1 q2 q3
                  go_wp2
                  clear m0 m1 m2 m3
                  go_loopw [136] (fun i wr => ∃ (r : Nat) (V' : Nat → Value), r ≤ 4 ∧ i = .int .i64 r ∧ Play w wr g mb κ7 μ s1 V' (fun j => if j < r then [s.last j] else ms s j) ∧ ∀ j, r ≤ j → V' j = V j) (fun i _ => 4 - (intOf i).toNat)
                  case atStart => exact ⟨0, V, by omega, rfl, P7.out.congr (fun j _ => by simp), fun _ _ => rfl⟩
                  case round =>
                    obtain ⟨r, V', hr4, rfl, hP2, hV2⟩ := hrel
                    have wr1 : IntKind.i64.wrap ((r : Int) + 1) = (r : Int) + 1 := by rw [IntKind.wrap_i64]; omega
                    by_cases hr : r < 4
                    · have t5 : decide ((r : Int) < 4) = true := by simp; omega
                      have er : (if r < r then [s.last r] else ms s r) = ms s r := if_neg (Nat.lt_irrefl r)
                      obtain ⟨rb, o, cc, eV, hle, p1, p2⟩ := hP2.may.cutAt r hr (s.last r) (by simp only [er]; exact ms_last s r)
                      simp only [er] at eV hle p1 p2
                      have hix := IX.out r hr
                      rw [← hV2 r (Nat.le_refl _), eV] at hix
                      have hpos := ms_pos s r
                      have cm : wr.cell? ⟨mb, r, none⟩ = some (.slice (some ⟨rb, o, none⟩) (ms s r).length cc) := by rw [← eV]; exact hP2.may.cell r hr
                      have fm := hP2.may.free r
                      have PF := Lib.hid ((hP2.row p1 p2 (fun _ _ => rfl)).congr (M' := fun j => if j < r + 1 then [s.last j] else ms s j) (fun j hj => by
                        unfold upd
                        by_cases e : j = r
                        · subst e; simp
                        · rw [if_neg e]
                          show (if j < r then [s.last j] else ms s j) = _
                          by_cases h2 : j < r
                          · rw [if_pos h2, if_pos (by omega)]
                          · rw [if_neg h2, if_neg (by omega)]))
                      have HV2 := Lib.hid (show ∀ (u : Value) j, r + 1 ≤ j → upd V' r u j = V j from fun u j hj => by rw [upd_ne _ _ (by omega)]; exact hV2 j (by omega))
                      have hml := HML.out r
                      clear p1 p2 eV er hP2 hV2
                      generalize (ms s r).length = n at *
                      have wn : IntKind.i64.wrap ((n : Int) - 1) = ((n - 1 : Nat) : Int) := by rw [IntKind.wrap_i64]; omega
                      have hcut := fun W => run_cutrow rb o n cc (n - 1) (by omega) (by omega) W
                      have en1 : n - (n - 1) = 1 := by omega
                      rw [en1] at hcut
                      generalize n - 1 = n' at *
                      have hr4' : (r : Int) < 4 := by omega
                      go_wp2
                      go_roundw
                      case rel => exact ⟨r + 1, _, by omega, by go_num, PF.out, HV2.out _⟩
                      case measure => simp [intOf]; omega
                    · have t5 : decide ((r : Int) < 4) = false := by simp; omega
                      have PF := Lib.hid (hP2.congr (M' := ms s1) (fun j hj => by
                        rw [HMF.out j hj, if_pos (by omega)]))
                      clear hP2 hV2
                      go_wp2
                      go_roundw
                      case rel => exact ⟨k + 1, s1, κ7, μ, V', by omega, by go_num, PF.out, HQ2.out⟩
                      case measure => simp [intOf]; omega
                · have t4 : (x0 == 3) = false := by simp; omega
                  go_wp2
                  go_roundw
                  case rel => exact ⟨k + 1, s, κ, μ, V, by omega, by go_num, P1.out, HQ.out.more⟩
                  case measure => simp [intOf]; omega
            · have t2 : decide ((k : Int) < (N : Int)) = false := by simp; omega
              have HKS := Lib.hid (show s.steps ≤ 60 from by
                have h1 := hQ.steps
                have h2 := HFW.out.1
                have h3 := HN.out
                omega)
              have HWS := Lib.hid hP.dsk.wf.ws
              have m0 := hP.may.cell 0 (by omega)
              have m1 := hP.may.cell 1 (by omega)
              have m2 := hP.may.cell 2 (by omega)
              have m3 := hP.may.cell 3 (by omega)
              have IX := Lib.hid (fun (r : Nat) (hr : r < 4) (W : World) => index4 V r hr W)
              clear hP hQ
              go_wp2
              clear m0 m1 m2 m3
              go_loopw [150] (fun i wr => ∃ r : Nat, r ≤ 4 ∧ i = .int .i64 r ∧ Play w wr g mb κ μ s V (ms s)) (fun i _ => 4 - (intOf i).toNat)
              case atStart => exact ⟨0, by omega, rfl, HP.out⟩
              case round =>
                obtain ⟨r, hr4, rfl, hP⟩ := hrel
                have PR := Lib.hid hP
                have wr1 : IntKind.i64.wrap ((r : Int) + 1) = (r : Int) + 1 := by rw [IntKind.wrap_i64]; omega
                by_cases hr : r < 4
                · have t5 : decide ((r : Int) < 4) = true := by simp; omega
                  have CR := Lib.hid (read_any PR.out.dsk (r : Int) (by have := PR.out.dsk.wf.ws; have := HKS.out; omega))
                  rw [HQ.out.read r hr] at CR
                  have hix := IX.out r hr
                  have HML := Lib.hid (show (ms s r).length ≤ 100 from by have := ms_len s r; have := PR.out.dsk.wf.ws; have := HKS.out; omega)
                  have HLS := Lib.hid (ms_last s r)
                  have HPOS := Lib.hid (ms_pos s r)
                  obtain ⟨ln, hln⟩ : ∃ ln, ln = (s.last r).length := ⟨_, rfl⟩
                  have HLN := Lib.hid hln
                  have HL4 := Lib.hid (show ln ≤ 1000000 from by
                    have hw := PR.out.dsk.wf
                    have z1 := hw.z1
                    rw [hln]
                    have hmem : s.last r = s.kept.getD r [] ∨ ∃ p, p ∈ s.waits ∧ s.last r = p.2 := by
                      have h1 := List.mem_of_getLast? (ms_last s r)
                      rcases List.mem_cons.1 h1 with h1 | h1
                      · exact .inl h1
                      · obtain ⟨p, hp, e⟩ := List.mem_map.1 h1
                        exact .inr ⟨p, (List.mem_filter.1 hp).1, e.symm⟩
                    rcases hmem with h1 | ⟨p, h1, h2⟩
                    · rw [h1]
                      have hk4 : s.kept.length = 4 := by rw [hw.kl]; exact HQ.out.n
                      rw [List.getD_eq_getElem?_getD, List.getElem?_eq_getElem (by omega)]
                      have := (hw.kb _ (List.getElem_mem (by omega : r < s.kept.length))).1
                      show (s.kept[r]).length ≤ _
                      omega
                    · rw [h2]; have := (hw.wb p h1).2.1; omega)
                  clear hP hln
                  generalize hbs : s.last r = bs at *
                  clear hbs
                  go_wp2_with fail
                  refine CR.out.mono ?_
                  rintro en w7 hr7
                  obtain ⟨A7, c7, rfl, _, _, hb7, _, hB7⟩ := hr7.len HLN.out.symm
                  have P7 := Lib.hid (PR.out.below hB7)
                  have Y7 := Lib.hid hb7
                  obtain ⟨rb, o, cc, eV, hle, hent⟩ := (P7.out.may.rows r hr).entry
                  have hpos := HPOS.out
                  obtain ⟨A8, c8, q8, hc8, hb8⟩ := hent ((ms s r).length - 1) (by omega)
                  have el : (ms s r)[(ms s r).length - 1] = bs := by
                    have := HLS.out
                    rw [List.getLast?_eq_getElem?, List.getElem?_eq_getElem (by omega)] at this
                    simpa using this
                  rw [el] at q8 hb8
                  have Y8 := Lib.hid hb8.bys
                  rw [← HLN.out] at q8
                  have hml := HML.out
                  have CS := Lib.hid (same_any2 A7 A8 bs bs ln ln c7 c8 w7 HLN.out.symm HLN.out.symm HL4.out _ _ Y7.out Y8.out)
                  rw [show decide (bs = bs) = true from by simp] at CS
                  rw [eV] at hix
                  clear hr7 hb7 hB7 hent hb8 el CR PR hc8
                  generalize (ms s r).length = n at *
                  have wn : IntKind.i64.wrap ((n : Int) - 1) = ((n - 1 : Nat) : Int) := by rw [IntKind.wrap_i64]; omega
                  have hn1 : n - 1 < n := by omega
                  generalize n - 1 = n' at *
                  have hr4' : (r : Int) < 4 := by omega
                  go_wp2_with fail
                  refine CS.out.mono ?_
                  rintro en w8 ⟨m, rfl, rfl⟩
                  have P8 := Lib.hid (P7.out.below (below_drewN_self w7 m))
                  clear P7 Y7 Y8 CS q8
                  go_wp2
                  go_roundw
                  case rel => exact ⟨r + 1, by omega, by go_num, P8.out⟩
                  case measure => simp [intOf]; omega
                · have t5 : decide ((r : Int) < 4) = false := by simp; omega
                  have CC := Lib.hid (crash_any PR.out.dsk KA kn kc kl HKN.out ((HK.out.below PR.out.bel).touch (F := fun _ => False) (Touch.refl _ _) (fun _ _ h => h) (fun b _ hb => by
                    by_cases h0 : κ b = 0
                    · rw [h0]; omega
                    · have := PR.out.lo b h0; omega)) (by have := PR.out.dsk.wf.ws; have := HKS.out; omega))
                  clear hP
                  go_wp2_with fail
                  refine CC.out.mono ?_
                  rintro en w7 hp
                  obtain ⟨rfl, _, κ7, hP7⟩ := PR.out.disk hp.p
                  have P7 := Lib.hid hP7
                  have CR := Lib.hid (read_any P7.out.dsk 0 (by show ([] : List (Nat × List Nat)).length ≤ _; simp))
                  rw [Quiet.off kl 0] at CR
                  clear hp hP7 CC PR
                  go_wp2_with fail
                  refine CR.out.mono ?_
                  rintro en w8 hr8
                  obtain ⟨A8, c8, rfl, _, _, _, _, hB8⟩ := hr8.len (n := 0) rfl
                  have P8 := Lib.hid (P7.out.below hB8)
                  have CP := Lib.hid (power_any P8.out.dsk)
                  clear hr8 hB8 CR P7
                  go_wp2_with fail
                  refine CP.out.mono ?_
                  rintro en w9 hp
                  obtain ⟨rfl, _, κ9, hP9⟩ := P8.out.disk hp.p
                  have P9 := Lib.hid hP9
                  have m0 := hP9.may.cell 0 (by omega)
                  have m1 := hP9.may.cell 1 (by omega)
                  have m2 := hP9.may.cell 2 (by omega)
                  have m3 := hP9.may.cell 3 (by omega)
                  clear hp hP9 CP P8
                  go_wp2
                  clear m0 m1 m2 m3
                  go_loopw [185] (fun i wr => ∃ q : Nat, q ≤ 4 ∧ i = .int .i64 q ∧ Play w wr g mb κ9 μ (s.crash kl).power V (ms s)) (fun i _ => 4 - (intOf i).toNat)
                  case atStart => exact ⟨0, by omega, rfl, P9.out⟩
                  case round =>
                    clear P9
                    obtain ⟨q, hq4, rfl, hPq⟩ := hrel
                    have PQ := Lib.hid hPq
                    have wq1 : IntKind.i64.wrap ((q : Int) + 1) = (q : Int) + 1 := by rw [IntKind.wrap_i64]; omega
                    by_cases hq : q < 4
                    · have t6 : decide ((q : Int) < 4) = true := by simp; omega
                      have CR := Lib.hid (read_any PQ.out.dsk (q : Int) (by show ([] : List (Nat × List Nat)).length ≤ _; simp))
                      rw [HQ.out.again kl q hq] at CR
                      have hix := IX.out q hq
                      have hw := PQ.out.dsk.wf
                      have hkl2 : (s.crash kl).kept.length = 4 := by have h1 : (s.crash kl).kept.length = s.n := hw.kl; rw [h1]; exact HQ.out.n
                      have HMEM := Lib.hid (ms_crash s kl q (by have h1 : (s.crash kl).kept.length = s.kept.length := setl_length ..; omega))
                      obtain ⟨ln, hln⟩ : ∃ ln, ln = ((s.crash kl).kept.getD q []).length := ⟨_, rfl⟩
                      have HLN := Lib.hid hln
                      have HL4 := Lib.hid (show ln ≤ 1000000 from by
                        have z1 : s.sz ≤ 256 := hw.z1
                        rw [hln, List.getD_eq_getElem?_getD, List.getElem?_eq_getElem (by omega)]
                        have h1 : ((s.crash kl).kept[q]).length = s.sz := (hw.kb _ (List.getElem_mem (by omega : q < (s.crash kl).kept.length))).1
                        show ((s.crash kl).kept[q]).length ≤ _
                        omega)
                      have HML := Lib.hid (show (ms s q).length ≤ 100 from by have := ms_len s q; have := HKS.out; have := HWS.out; omega)
                      clear hPq hln hw hkl2
                      generalize hbs : (s.crash kl).kept.getD q [] = bs at *
                      clear hbs
                      go_wp2_with fail
                      refine CR.out.mono ?_
                      rintro en w7 hr7
                      obtain ⟨A7, c7, rfl, _, _, hb7, _, hB7⟩ := hr7.len HLN.out.symm
                      have P7 := Lib.hid (PQ.out.below hB7)
                      have Y7 := Lib.hid hb7
                      obtain ⟨rb, o, cc, eV, hle, hent⟩ := (P7.out.may.rows q hq).entry
                      rw [eV] at hix
                      have HENT := Lib.hid hent
                      have hml := HML.out
                      obtain ⟨M, hM⟩ : ∃ M, M = ms s q := ⟨_, rfl⟩
                      rw [← hM] at HENT hle HMEM HML hix hml eV
                      have hq4' : (q : Int) < 4 := by omega
                      clear hr7 hb7 hB7 hent CR PQ hM
                      obtain ⟨n, hn⟩ : ∃ n, n = M.length := ⟨_, rfl⟩
                      have HNM := Lib.hid hn
                      rw [← hn] at hix hle hml eV
                      clear hn
                      go_wp2
                      clear eV hix
                      go_loopw [26, 197] (fun fv iv wr => ∃ (j m : Nat) (fb : Bool), j ≤ n ∧ iv = .int .i64 j ∧ fv = .bool fb ∧ (fb = true ↔ bs ∈ M.take j) ∧ wr = w7.drewN m) (fun _ iv _ => n - (intOf iv).toNat)
                      case atStart => exact ⟨0, 0, false, by omega, rfl, rfl, by simp, rfl⟩
                      case round =>
                        obtain ⟨j, m, fb, hjn, rfl, rfl, hfb, rfl⟩ := hrel
                        have HFB := Lib.hid hfb
                        have wj1 : IntKind.i64.wrap ((j : Int) + 1) = (j : Int) + 1 := by rw [IntKind.wrap_i64]; omega
                        by_cases hj : j < n
                        · have t7 : decide ((j : Int) < (n : Int)) = true := by simp; omega
                          have hjM : j < M.length := by rw [← HNM.out]; exact hj
                          obtain ⟨A8, c8, q8, _, hb8⟩ := HENT.out j hjM
                          have HTK := Lib.hid (List.take_succ_eq_append_getElem hjM)
                          have Y8 := Lib.hid hb8.bys
                          clear hfb hb8
                          generalize M[j] = xs at *
                          obtain ⟨l8, hl8⟩ : ∃ l, l = xs.length := ⟨_, rfl⟩
                          have HL8 := Lib.hid hl8
                          rw [← hl8] at q8
                          have q8' : (w7.drewN m).cell? ⟨rb, o + j, none⟩ = some (.slice A8 l8 c8) := q8
                          clear hl8 q8
                          cases fb with
                          | true =>
                            have HT := Lib.hid (show (true = true ↔ bs ∈ M.take (j + 1)) from ⟨fun _ => by rw [HTK.out]; exact List.mem_append_left _ (HFB.out.1 rfl), fun _ => rfl⟩)
                            go_wp2
                            go_roundw
                            case rel => exact ⟨j + 1, m, true, by omega, by go_num, rfl, HT.out, rfl⟩
                            case measure => simp [intOf]; omega
                          | false =>
                            have CS := Lib.hid (same_any2 A7 A8 bs xs ln l8 c7 c8 (w7.drewN m) HLN.out.symm HL8.out.symm HL4.out _ _ (Y7.out.drewN m) (Y8.out.drewN m))
                            have HT := Lib.hid (show (decide (bs = xs) = true ↔ bs ∈ M.take (j + 1)) from by
                              rw [HTK.out, List.mem_append, List.mem_singleton]
                              have h0 : ¬ bs ∈ M.take j := fun h => by cases HFB.out.2 h
                              simp [h0])
                            generalize decide (bs = xs) = eb at *
                            go_wp2_with fail
                            refine CS.out.mono ?_
                            rintro en w8 ⟨m', rfl, rfl⟩
                            go_wp2
                            go_roundw
                            case rel => exact ⟨j + 1, m + m', eb, by omega, by go_num, rfl, HT.out, rfl⟩
                            case measure => simp [intOf]; omega
                        · have t7 : decide ((j : Int) < (n : Int)) = false := by simp; omega
                          obtain rfl : fb = true := hfb.2 (by rw [List.take_of_length_le (by rw [← HNM.out]; omega)]; exact HMEM.out)
                          have P8 := Lib.hid (P7.out.below (below_drewN_self w7 m))
                          clear hfb HFB P7
                          go_wp2
                          go_roundw
                          case rel => exact ⟨q + 1, by omega, by go_num, P8.out⟩
                          case measure => simp [intOf]; omega
                    · have t6 : decide ((q : Int) < 4) = false := by simp; omega
                      have HB9 := Lib.hid hPq.bel
                      clear hPq PQ
                      go_wp2
                      go_ret
                      exact ⟨rfl, HB9.out⟩

end Go.Proofs.Ytfjaiolgbcindaa
