/-
  The contract of aes.expanded: the words of a key of 4 or of 8 words. Conditions: the key's bytes lie in its slice, the box in its block, the table of widths in its variable. (Written by tools/gen_exp.py.)
-/
import Derived.Test.YtdjknmnmacppdaaDoorAesWord
import Derived.Deep.OwnRows
import Derived.Deep.QuietTactic
import Derived.BigQuiet
namespace Go.Proofs.YtdjknmnmacppdaaDoor
open Go.RowKit Arr Gf Sb Ae

theorem powr_two (q : Nat) (hq : q < 255) : powr 2 (q : Int) = pw 2 q := by
  unfold powr
  by_cases h : q = 0
  · subst h; simp [pw]
  · rw [if_neg (by omega), if_neg (by omega), show ((q : Int) % 255).toNat = q by omega]
theorem info_u32 : (Tryd.prog.info? 66).map (fun i => (i.zero, i.size, i.bytes)) = some (some (.int .u32 0), 1, 4) := by kernel_rfl
theorem fw_step (k m i : Nat) (l : List Nat) : fw k (m + 1) i l = fw k m (i + 1) (l.set i (l.getD (i - k) 0 ^^^ nxt k i (l.getD (i - 1) 0))) := rfl

/-- What a call of expanded leaves. -/
def Expanded (bs : List Nat) (k : Nat) (w : World) (e : Ending) (w' : World) : Prop :=
  ∃ h, e = .returned (.slice (some ⟨h, 0, none⟩) (4 * (k + 7)) (4 * (k + 7))) ∧ Holds w' h .u32 (words bs k) ∧ w.heap.size ≤ h ∧ Below w.heap.size w w'

theorem made4 : madeCells #[.int .u32 0] 44 = na .u32 (zs 44) := by kernel_rfl

set_option maxHeartbeats 4000000 in
set_option maxRecDepth 10000 in
theorem expanded4 (bs : List Nat) (hl : bs.length = 16) (A : Option Addr) (c : Nat) (hc : 16 ≤ c) (g o : Nat) (w : World) (hb : Bys w w.heap.size A bs) (hg : HAt w g o .u8 boxL) (ht : Tab w 0) :
    Calls Tryd.prog 30 #[.slice A 16 c, .int .i64 4, .pointer (some ⟨g, o, none⟩)] w (Expanded bs 4 w) := by
  obtain ⟨b, off, rfl, hbw, -⟩ := hb.2 (by omega)
  have hmk : ∀ W : World, (Instr.makeSlice 63 (.int .i64 44) (.int .i64 44)).run Tryd.prog W = .ok (.slice (some ⟨W.heap.size, 0, none⟩) 44 44) (W.alloc (.cells (na .u32 (zs 44)) 66)) := by
    rw [← made4]
    exact run_make_row' (P := Tryd.prog) 63 66 (.int .u32 0) 4 Tryd.underlying63 info_u32 rfl .i64 .i64 44 (by omega) (by omega)
  have hgw := hg.lt (by rw [boxL_len]; omega)
  have htw := ht.lt
  have HB := Lib.hid hb
  have HG := Lib.hid hg
  have HT := Lib.hid ht
  have HL := Lib.hid hl
  have A1 := Lib.hid (Holds.new w 66 .u32 (zs 44))
  have A2 := Lib.hid (below_alloc w (.cells (na .u32 (zs 44)) 66))
  clear hb hg ht hl
  have LZ := length_zs 44
  go_enter Tryd.func30, Tryd.ntmps30
  go_wp2_with fail
  clear hmk
  generalize w.alloc (.cells (na .u32 (zs 44)) 66) = w0 at *
  go_loopw [17] (fun i wr => ∃ i0 : Nat, i0 ≤ 4 ∧ i = .int .i64 (i0 : Nat) ∧ Holds wr w.heap.size .u32 (upto (kw bs) (fun _ => 0) 44 i0) ∧ Below w.heap.size w wr) (fun i _ => 4 - (intOf i).toNat)
  case atStart => exact ⟨0, by omega, rfl, by rw [upto_noughts]; exact A1.out, A2.out⟩
  case round =>
    clear A1 A2
    obtain ⟨i, hi, rfl, h1, h2⟩ := hrel
    have H1 := Lib.hid h1
    have H2 := Lib.hid h2
    clear h1 h2
    by_cases hlt : i < 4
    · have ti : decide ((i : Int) < 4) = true := by simp; omega
      obtain ⟨q, hq⟩ : ∃ q, q = 4 * i := ⟨_, rfl⟩
      have hx1 : 4 * (i : Int) = (q : Int) := by omega
      have HBq := HB.out.part q 4 (by have := HL.out; omega)
      have HBq := Lib.hid ((HBq.below H2.out))
      have C1 := Lib.hid (get32_yes (some ⟨b, off + q, none⟩) (c - q) ((bs.drop q).take 4) (by have := HL.out; simp; omega) wr _ HBq.out (HT.out.below H2.out htw))
      have hkw : kw bs i = num ((bs.drop q).take 4) := by rw [hq]; rfl
      rw [← hkw] at C1
      have HS := upto_succ (kw bs) (fun _ => 0) 44 i (by omega)
      have lu := length_upto (kw bs) (fun _ => 0) 44 i
      generalize upto (kw bs) (fun _ => 0) 44 i = u at *
      have cl := H1.out.cell i (by omega)
      have fr := H1.out.frozen i (by omega)
      have X1 := H1.out.set i (kw bs i) (by omega)
      rw [← HS] at X1
      have X2 := H2.out.setCell (p := ⟨w.heap.size, i, none⟩) (Nat.le_refl _) (.int .u32 ((kw bs i : Nat) : Int))
      have X1 := Lib.hid X1
      have X2 := Lib.hid X2
      clear HS hkw
      generalize kw bs i = v at *
      generalize u.getD i 0 = old at *
      have q1 : (q : Int) + 4 ≤ (c : Int) := by omega
      have q2 : q + 4 - q = 4 := by omega
      clear hq
      go_wp2_with fail
      refine C1.out.mono ?_
      rintro e w1 ⟨rfl, rfl⟩
      go_wp2
      go_roundw
      case rel => exact ⟨i + 1, by omega, by go_num, X1.out, X2.out⟩
      case measure => simp [intOf]; omega
    · have ei : (i : Int) = 4 := by omega
      rw [ei]
      obtain rfl : i = 4 := by omega
      clear ei
      have WK := Lib.hid (ws_key HB.out.1 44 4)
      have HW := Lib.hid (show fw 4 (44 - 4) 4 (upto (kw bs) (fun _ => 0) 44 4) = words bs 4 from rfl)
      have LU := length_upto (kw bs) (fun _ => 0) 44 4
      generalize upto (kw bs) (fun _ => 0) 44 4 = u at *
      go_wp2_with fail
      go_loopw [9] (fun i wr => ∃ (i0 : Nat) (l : List Nat), 4 ≤ i0 ∧ i0 ≤ 44 ∧ i = .int .i64 (i0 : Nat) ∧ l.length = 44 ∧ Ws l ∧ fw 4 (44 - i0) i0 l = words bs 4 ∧ Holds wr w.heap.size .u32 l ∧ Below w.heap.size w wr) (fun i _ => 44 - (intOf i).toNat)
      case atStart => exact ⟨4, u, by omega, by omega, rfl, LU, WK.out, HW.out, H1.out, H2.out⟩
      case round =>
        clear H1 H2 WK HW LU
        obtain ⟨i, l, hi1, hi2, rfl, hl, hw, hf, h1, h2⟩ := hrel
        have H1 := Lib.hid h1
        have H2 := Lib.hid h2
        have HL' := Lib.hid hl
        have HWs := Lib.hid hw
        clear h1 h2 hw
        by_cases hlt : i < 44
        · have ti : decide ((i : Int) < 44) = true := by simp; omega
          obtain ⟨p, hp⟩ : ∃ p, p = i - 1 := ⟨_, rfl⟩
          obtain ⟨m, hm⟩ : ∃ m, m = i - 4 := ⟨_, rfl⟩
          have ep : (i : Int) - 1 = (p : Int) := by omega
          have em : (i : Int) - 4 = (m : Int) := by omega
          have ip : (p : Int) < 44 := by omega
          have im : (m : Int) < 44 := by omega
          rw [show 44 - i = (44 - (i + 1)) + 1 by omega, fw_step, ← hp, ← hm] at hf
          have hla := HWs.out p
          have hlm := HWs.out m
          have hnx := nxt_lt 4 i (l.getD p 0) hla
          have hw' : Ws (l.set i (l.getD m 0 ^^^ nxt 4 i (l.getD p 0))) := ws_set HWs.out _ _ (xor32 hlm hnx)
          have hx : bits .xor .u32 ((l.getD m 0 : Nat) : Int) ((nxt 4 i (l.getD p 0) : Nat) : Int) = ((l.getD m 0 ^^^ nxt 4 i (l.getD p 0) : Nat) : Int) := u32_xor_nat _ _ hlm hnx
          have cp := H1.out.cell p (by omega)
          have cm := H1.out.cell m (by omega)
          have ci := H1.out.cell i (by omega)
          have fi := H1.out.frozen i (by omega)
          have HF := Lib.hid hf
          have HV := Lib.hid hw'
          have hlen : (l.set i (l.getD m 0 ^^^ nxt 4 i (l.getD p 0))).length = 44 := by rw [List.length_set, hl]
          have HN := Lib.hid hlen
          clear hf hw' hlen hl
          have wp1 := wrap_nat p (by omega)
          have wm1 := wrap_nat m (by omega)
          by_cases hk0 : i % 4 = 0
          · have t0 : ((i : Int) % 4 == 0) = true := by simp; omega
            have t0' : (Int.tmod (i : Int) 4 == 0) = true := by rw [Int.tmod_eq_emod_of_nonneg (by omega)]; exact t0
            obtain ⟨d, hd⟩ : ∃ d, d = i / 4 - 1 := ⟨_, rfl⟩
            have hnv : nxt 4 i (l.getD p 0) = subW (rot (l.getD p 0) 24) ^^^ pw 2 d * 16777216 := by rw [nxt, if_pos hk0, ← hd]
            have hpw := pw_lt 2 d (by omega)
            have hsw := subW_lt (rot (l.getD p 0) 24)
            have hx2 : bits .xor .u32 ((subW (rot (l.getD p 0) 24) : Nat) : Int) ((pw 2 d : Nat) * 16777216 : Int) = ((nxt 4 i (l.getD p 0) : Nat) : Int) := by
              have := u32_xor_nat (subW (rot (l.getD p 0) 24)) (pw 2 d * 16777216) hsw (by omega)
              rw [hnv]
              simpa using this
            have C1 := Lib.hid (fun w' => (rotate_any (l.getD p 0) hla 24 24 (by omega) w').mono fun e w'' h => (⟨h.1, h.2.symm⟩ : e = .returned (.int .u32 ((rot (l.getD p 0) 24 : Nat) : Int)) ∧ w'' = w'))
            have C2 := Lib.hid (fun w' h => boxedWord_any (rot (l.getD p 0) 24) g o w' h)
            have C3 := fun w' => power_any 2 (by omega) (d : Int) w'
            rw [powr_two d (by omega)] at C3
            have C3 := Lib.hid (fun w' => (C3 w').mono fun e w'' h => (⟨h.1, h.2.symm⟩ : e = .returned (.int .u8 ((pw 2 d : Nat) : Int)) ∧ w'' = w'))
            generalize subW (rot (l.getD p 0) 24) = sv at *
            generalize rot (l.getD p 0) 24 = rv at *
            generalize pw 2 d = pv at *
            generalize nxt 4 i (l.getD p 0) = nv at *
            generalize l.getD p 0 = la at *
            generalize hgm : l.getD m 0 = lm at *
            have GM := Lib.hid hgm
            clear hgm
            have HX := Lib.hid (show HAt wr g o .u8 boxL from HG.out.below H2.out hgw)
            clear hnv hsw
            have d1 : (i : Int) / 4 = (d : Int) + 1 := by omega
            have d2 : Int.tdiv (i : Int) 4 = (d : Int) + 1 := by rw [Int.tdiv_eq_ediv_of_nonneg (by omega)]; omega
            have d3 : IntKind.i64.wrap ((d : Int) + 1) = (d : Int) + 1 := by rw [IntKind.wrap_i64]; omega
            have d4 := wrap_nat d (by omega)
            have s1 : IntKind.u32.wrap (pv : Int) = (pv : Int) := by rw [IntKind.wrap_u32]; omega
            have s2 : IntKind.u32.wrap ((pv : Int) * 16777216) = (pv : Int) * 16777216 := by rw [IntKind.wrap_u32]; omega
            clear hp hm hd hk0
            go_wp2_with fail
            go_quiet (first | (go_at_call 51; exact Calls.quiet_of_same (C1.out _)) | (go_at_call 50; exact Calls.quiet_of (C2.out _ (HX.out.below (below_drewN_self wr _) (HX.out.lt (by rw [boxL_len]; omega))))) | (go_at_call 52; exact Calls.quiet_of_same (C3.out _)))
            generalize lm ^^^ nv = new at *
            have Q1 := H1.out.below (below_drewN_self wr nq) (H1.out.lt (by have := HL'.out; omega))
            have Q2 := below_drewN H2.out nq
            clear cp cm ci fi H1 H2
            generalize wr.drewN nq = wx at *
            have cm := Q1.cell m (by have := HL'.out; omega)
            have ci := Q1.cell i (by have := HL'.out; omega)
            have fi := Q1.frozen i (by have := HL'.out; omega)
            rw [GM.out] at cm
            have X1 := Lib.hid (Q1.set i new (by have := HL'.out; omega))
            have X2 := Lib.hid (Q2.setCell (p := ⟨w.heap.size, i, none⟩) (Nat.le_refl _) (.int .u32 (new : Int)))
            clear Q1 Q2
            generalize l.getD i 0 = old at *
            go_wp2
            go_roundw
            case rel => exact ⟨i + 1, l.set i new, by omega, by omega, by go_num, HN.out, HV.out, HF.out, X1.out, X2.out⟩
            case measure => simp [intOf]; omega
          · have t0 : ((i : Int) % 4 == 0) = false := by simp; omega
            have hnv : nxt 4 i (l.getD p 0) = l.getD p 0 := by rw [nxt, if_neg hk0, if_neg (fun h => absurd h.1 (by omega))]
            rw [hnv] at hx hnx HF HV HN
            clear hp hm hk0 hnv
            generalize hgl : l.getD p 0 = nv at *
            clear hgl
            generalize hgm : l.getD m 0 = lm at *
            have GM := Lib.hid hgm
            clear hgm
            generalize lm ^^^ nv = new at *
            have Q1 := H1.out.below (Below.refl _ _) (H1.out.lt (by have := HL'.out; omega))
            have Q2 := H2.out
            clear cm ci fi H1 H2
            have wx := wr
            have cm := Q1.cell m (by have := HL'.out; omega)
            have ci := Q1.cell i (by have := HL'.out; omega)
            have fi := Q1.frozen i (by have := HL'.out; omega)
            rw [GM.out] at cm
            have X1 := Lib.hid (Q1.set i new (by have := HL'.out; omega))
            have X2 := Lib.hid (Q2.setCell (p := ⟨w.heap.size, i, none⟩) (Nat.le_refl _) (.int .u32 (new : Int)))
            clear Q1 Q2
            generalize l.getD i 0 = old at *
            go_wp2
            go_roundw
            case rel => exact ⟨i + 1, l.set i new, by omega, by omega, by go_num, HN.out, HV.out, HF.out, X1.out, X2.out⟩
            case measure => simp [intOf]; omega
        · obtain rfl : i = 44 := by omega
          have hfin : l = words bs 4 := hf
          have HF := Lib.hid hfin
          clear hf hfin
          go_wp2
          go_ret
          exact ⟨w.heap.size, rfl, by rw [← HF.out]; exact H1.out, Nat.le_refl _, H2.out⟩

theorem made8 : madeCells #[.int .u32 0] 60 = na .u32 (zs 60) := by kernel_rfl

set_option maxHeartbeats 4000000 in
set_option maxRecDepth 10000 in
theorem expanded8 (bs : List Nat) (hl : bs.length = 32) (A : Option Addr) (c : Nat) (hc : 32 ≤ c) (g o : Nat) (w : World) (hb : Bys w w.heap.size A bs) (hg : HAt w g o .u8 boxL) (ht : Tab w 0) :
    Calls Tryd.prog 30 #[.slice A 32 c, .int .i64 8, .pointer (some ⟨g, o, none⟩)] w (Expanded bs 8 w) := by
  obtain ⟨b, off, rfl, hbw, -⟩ := hb.2 (by omega)
  have hmk : ∀ W : World, (Instr.makeSlice 63 (.int .i64 60) (.int .i64 60)).run Tryd.prog W = .ok (.slice (some ⟨W.heap.size, 0, none⟩) 60 60) (W.alloc (.cells (na .u32 (zs 60)) 66)) := by
    rw [← made8]
    exact run_make_row' (P := Tryd.prog) 63 66 (.int .u32 0) 4 Tryd.underlying63 info_u32 rfl .i64 .i64 60 (by omega) (by omega)
  have hgw := hg.lt (by rw [boxL_len]; omega)
  have htw := ht.lt
  have HB := Lib.hid hb
  have HG := Lib.hid hg
  have HT := Lib.hid ht
  have HL := Lib.hid hl
  have A1 := Lib.hid (Holds.new w 66 .u32 (zs 60))
  have A2 := Lib.hid (below_alloc w (.cells (na .u32 (zs 60)) 66))
  clear hb hg ht hl
  have LZ := length_zs 60
  go_enter Tryd.func30, Tryd.ntmps30
  go_wp2_with fail
  clear hmk
  generalize w.alloc (.cells (na .u32 (zs 60)) 66) = w0 at *
  go_loopw [17] (fun i wr => ∃ i0 : Nat, i0 ≤ 8 ∧ i = .int .i64 (i0 : Nat) ∧ Holds wr w.heap.size .u32 (upto (kw bs) (fun _ => 0) 60 i0) ∧ Below w.heap.size w wr) (fun i _ => 8 - (intOf i).toNat)
  case atStart => exact ⟨0, by omega, rfl, by rw [upto_noughts]; exact A1.out, A2.out⟩
  case round =>
    clear A1 A2
    obtain ⟨i, hi, rfl, h1, h2⟩ := hrel
    have H1 := Lib.hid h1
    have H2 := Lib.hid h2
    clear h1 h2
    by_cases hlt : i < 8
    · have ti : decide ((i : Int) < 8) = true := by simp; omega
      obtain ⟨q, hq⟩ : ∃ q, q = 4 * i := ⟨_, rfl⟩
      have hx1 : 4 * (i : Int) = (q : Int) := by omega
      have HBq := HB.out.part q 4 (by have := HL.out; omega)
      have HBq := Lib.hid ((HBq.below H2.out))
      have C1 := Lib.hid (get32_yes (some ⟨b, off + q, none⟩) (c - q) ((bs.drop q).take 4) (by have := HL.out; simp; omega) wr _ HBq.out (HT.out.below H2.out htw))
      have hkw : kw bs i = num ((bs.drop q).take 4) := by rw [hq]; rfl
      rw [← hkw] at C1
      have HS := upto_succ (kw bs) (fun _ => 0) 60 i (by omega)
      have lu := length_upto (kw bs) (fun _ => 0) 60 i
      generalize upto (kw bs) (fun _ => 0) 60 i = u at *
      have cl := H1.out.cell i (by omega)
      have fr := H1.out.frozen i (by omega)
      have X1 := H1.out.set i (kw bs i) (by omega)
      rw [← HS] at X1
      have X2 := H2.out.setCell (p := ⟨w.heap.size, i, none⟩) (Nat.le_refl _) (.int .u32 ((kw bs i : Nat) : Int))
      have X1 := Lib.hid X1
      have X2 := Lib.hid X2
      clear HS hkw
      generalize kw bs i = v at *
      generalize u.getD i 0 = old at *
      have q1 : (q : Int) + 4 ≤ (c : Int) := by omega
      have q2 : q + 4 - q = 4 := by omega
      clear hq
      go_wp2_with fail
      refine C1.out.mono ?_
      rintro e w1 ⟨rfl, rfl⟩
      go_wp2
      go_roundw
      case rel => exact ⟨i + 1, by omega, by go_num, X1.out, X2.out⟩
      case measure => simp [intOf]; omega
    · have ei : (i : Int) = 8 := by omega
      rw [ei]
      obtain rfl : i = 8 := by omega
      clear ei
      have WK := Lib.hid (ws_key HB.out.1 60 8)
      have HW := Lib.hid (show fw 8 (60 - 8) 8 (upto (kw bs) (fun _ => 0) 60 8) = words bs 8 from rfl)
      have LU := length_upto (kw bs) (fun _ => 0) 60 8
      generalize upto (kw bs) (fun _ => 0) 60 8 = u at *
      go_wp2_with fail
      go_loopw [9] (fun i wr => ∃ (i0 : Nat) (l : List Nat), 8 ≤ i0 ∧ i0 ≤ 60 ∧ i = .int .i64 (i0 : Nat) ∧ l.length = 60 ∧ Ws l ∧ fw 8 (60 - i0) i0 l = words bs 8 ∧ Holds wr w.heap.size .u32 l ∧ Below w.heap.size w wr) (fun i _ => 60 - (intOf i).toNat)
      case atStart => exact ⟨8, u, by omega, by omega, rfl, LU, WK.out, HW.out, H1.out, H2.out⟩
      case round =>
        clear H1 H2 WK HW LU
        obtain ⟨i, l, hi1, hi2, rfl, hl, hw, hf, h1, h2⟩ := hrel
        have H1 := Lib.hid h1
        have H2 := Lib.hid h2
        have HL' := Lib.hid hl
        have HWs := Lib.hid hw
        clear h1 h2 hw
        by_cases hlt : i < 60
        · have ti : decide ((i : Int) < 60) = true := by simp; omega
          obtain ⟨p, hp⟩ : ∃ p, p = i - 1 := ⟨_, rfl⟩
          obtain ⟨m, hm⟩ : ∃ m, m = i - 8 := ⟨_, rfl⟩
          have ep : (i : Int) - 1 = (p : Int) := by omega
          have em : (i : Int) - 8 = (m : Int) := by omega
          have ip : (p : Int) < 60 := by omega
          have im : (m : Int) < 60 := by omega
          rw [show 60 - i = (60 - (i + 1)) + 1 by omega, fw_step, ← hp, ← hm] at hf
          have hla := HWs.out p
          have hlm := HWs.out m
          have hnx := nxt_lt 8 i (l.getD p 0) hla
          have hw' : Ws (l.set i (l.getD m 0 ^^^ nxt 8 i (l.getD p 0))) := ws_set HWs.out _ _ (xor32 hlm hnx)
          have hx : bits .xor .u32 ((l.getD m 0 : Nat) : Int) ((nxt 8 i (l.getD p 0) : Nat) : Int) = ((l.getD m 0 ^^^ nxt 8 i (l.getD p 0) : Nat) : Int) := u32_xor_nat _ _ hlm hnx
          have cp := H1.out.cell p (by omega)
          have cm := H1.out.cell m (by omega)
          have ci := H1.out.cell i (by omega)
          have fi := H1.out.frozen i (by omega)
          have HF := Lib.hid hf
          have HV := Lib.hid hw'
          have hlen : (l.set i (l.getD m 0 ^^^ nxt 8 i (l.getD p 0))).length = 60 := by rw [List.length_set, hl]
          have HN := Lib.hid hlen
          clear hf hw' hlen hl
          have wp1 := wrap_nat p (by omega)
          have wm1 := wrap_nat m (by omega)
          by_cases hk0 : i % 8 = 0
          · have t0 : ((i : Int) % 8 == 0) = true := by simp; omega
            have t0' : (Int.tmod (i : Int) 8 == 0) = true := by rw [Int.tmod_eq_emod_of_nonneg (by omega)]; exact t0
            obtain ⟨d, hd⟩ : ∃ d, d = i / 8 - 1 := ⟨_, rfl⟩
            have hnv : nxt 8 i (l.getD p 0) = subW (rot (l.getD p 0) 24) ^^^ pw 2 d * 16777216 := by rw [nxt, if_pos hk0, ← hd]
            have hpw := pw_lt 2 d (by omega)
            have hsw := subW_lt (rot (l.getD p 0) 24)
            have hx2 : bits .xor .u32 ((subW (rot (l.getD p 0) 24) : Nat) : Int) ((pw 2 d : Nat) * 16777216 : Int) = ((nxt 8 i (l.getD p 0) : Nat) : Int) := by
              have := u32_xor_nat (subW (rot (l.getD p 0) 24)) (pw 2 d * 16777216) hsw (by omega)
              rw [hnv]
              simpa using this
            have C1 := Lib.hid (fun w' => (rotate_any (l.getD p 0) hla 24 24 (by omega) w').mono fun e w'' h => (⟨h.1, h.2.symm⟩ : e = .returned (.int .u32 ((rot (l.getD p 0) 24 : Nat) : Int)) ∧ w'' = w'))
            have C2 := Lib.hid (fun w' h => boxedWord_any (rot (l.getD p 0) 24) g o w' h)
            have C3 := fun w' => power_any 2 (by omega) (d : Int) w'
            rw [powr_two d (by omega)] at C3
            have C3 := Lib.hid (fun w' => (C3 w').mono fun e w'' h => (⟨h.1, h.2.symm⟩ : e = .returned (.int .u8 ((pw 2 d : Nat) : Int)) ∧ w'' = w'))
            generalize subW (rot (l.getD p 0) 24) = sv at *
            generalize rot (l.getD p 0) 24 = rv at *
            generalize pw 2 d = pv at *
            generalize nxt 8 i (l.getD p 0) = nv at *
            generalize l.getD p 0 = la at *
            generalize hgm : l.getD m 0 = lm at *
            have GM := Lib.hid hgm
            clear hgm
            have HX := Lib.hid (show HAt wr g o .u8 boxL from HG.out.below H2.out hgw)
            clear hnv hsw
            have d1 : (i : Int) / 8 = (d : Int) + 1 := by omega
            have d2 : Int.tdiv (i : Int) 8 = (d : Int) + 1 := by rw [Int.tdiv_eq_ediv_of_nonneg (by omega)]; omega
            have d3 : IntKind.i64.wrap ((d : Int) + 1) = (d : Int) + 1 := by rw [IntKind.wrap_i64]; omega
            have d4 := wrap_nat d (by omega)
            have s1 : IntKind.u32.wrap (pv : Int) = (pv : Int) := by rw [IntKind.wrap_u32]; omega
            have s2 : IntKind.u32.wrap ((pv : Int) * 16777216) = (pv : Int) * 16777216 := by rw [IntKind.wrap_u32]; omega
            clear hp hm hd hk0
            go_wp2_with fail
            go_quiet (first | (go_at_call 51; exact Calls.quiet_of_same (C1.out _)) | (go_at_call 50; exact Calls.quiet_of (C2.out _ (HX.out.below (below_drewN_self wr _) (HX.out.lt (by rw [boxL_len]; omega))))) | (go_at_call 52; exact Calls.quiet_of_same (C3.out _)))
            generalize lm ^^^ nv = new at *
            have Q1 := H1.out.below (below_drewN_self wr nq) (H1.out.lt (by have := HL'.out; omega))
            have Q2 := below_drewN H2.out nq
            clear cp cm ci fi H1 H2
            generalize wr.drewN nq = wx at *
            have cm := Q1.cell m (by have := HL'.out; omega)
            have ci := Q1.cell i (by have := HL'.out; omega)
            have fi := Q1.frozen i (by have := HL'.out; omega)
            rw [GM.out] at cm
            have X1 := Lib.hid (Q1.set i new (by have := HL'.out; omega))
            have X2 := Lib.hid (Q2.setCell (p := ⟨w.heap.size, i, none⟩) (Nat.le_refl _) (.int .u32 (new : Int)))
            clear Q1 Q2
            generalize l.getD i 0 = old at *
            go_wp2
            go_roundw
            case rel => exact ⟨i + 1, l.set i new, by omega, by omega, by go_num, HN.out, HV.out, HF.out, X1.out, X2.out⟩
            case measure => simp [intOf]; omega
          · have t0 : ((i : Int) % 8 == 0) = false := by simp; omega
            by_cases hk4 : i % 8 = 4
            · have t4 : ((i : Int) % 8 == 4) = true := by simp; omega
              have hnv : nxt 8 i (l.getD p 0) = subW (l.getD p 0) := by rw [nxt, if_neg hk0, if_pos ⟨rfl, hk4⟩]
              have C2 := Lib.hid (fun w' h => boxedWord_any (l.getD p 0) g o w' h)
              rw [← hnv] at C2
              have HX := Lib.hid (show HAt wr g o .u8 boxL from HG.out.below H2.out hgw)
              clear hp hm hk0 hk4 hnv
              generalize nxt 8 i (l.getD p 0) = nv at *
              generalize l.getD p 0 = la at *
              generalize hgm : l.getD m 0 = lm at *
              have GM := Lib.hid hgm
              clear hgm
              go_wp2_with fail
              refine (C2.out _ HX.out).mono ?_
              rintro e w1 ⟨rfl, nq, rfl⟩
              generalize lm ^^^ nv = new at *
              have Q1 := H1.out.below (below_drewN_self wr nq) (H1.out.lt (by have := HL'.out; omega))
              have Q2 := below_drewN H2.out nq
              clear cp cm ci fi H1 H2
              generalize wr.drewN nq = wx at *
              have cm := Q1.cell m (by have := HL'.out; omega)
              have ci := Q1.cell i (by have := HL'.out; omega)
              have fi := Q1.frozen i (by have := HL'.out; omega)
              rw [GM.out] at cm
              have X1 := Lib.hid (Q1.set i new (by have := HL'.out; omega))
              have X2 := Lib.hid (Q2.setCell (p := ⟨w.heap.size, i, none⟩) (Nat.le_refl _) (.int .u32 (new : Int)))
              clear Q1 Q2
              generalize l.getD i 0 = old at *
              go_wp2
              go_roundw
              case rel => exact ⟨i + 1, l.set i new, by omega, by omega, by go_num, HN.out, HV.out, HF.out, X1.out, X2.out⟩
              case measure => simp [intOf]; omega
            · have t4 : ((i : Int) % 8 == 4) = false := by simp; omega
              have hnv : nxt 8 i (l.getD p 0) = l.getD p 0 := by rw [nxt, if_neg hk0, if_neg (fun h => hk4 h.2)]
              rw [hnv] at hx hnx HF HV HN
              clear hp hm hk0 hk4 hnv
              have cp' := cp
              generalize hgl : l.getD p 0 = nv at *
              clear hgl
              generalize hgm : l.getD m 0 = lm at *
              have GM := Lib.hid hgm
              clear hgm
              generalize lm ^^^ nv = new at *
              have Q1 := H1.out.below (Below.refl _ _) (H1.out.lt (by have := HL'.out; omega))
              have Q2 := H2.out
              clear cm ci fi H1 H2
              have wx := wr
              have cm := Q1.cell m (by have := HL'.out; omega)
              have ci := Q1.cell i (by have := HL'.out; omega)
              have fi := Q1.frozen i (by have := HL'.out; omega)
              rw [GM.out] at cm
              have X1 := Lib.hid (Q1.set i new (by have := HL'.out; omega))
              have X2 := Lib.hid (Q2.setCell (p := ⟨w.heap.size, i, none⟩) (Nat.le_refl _) (.int .u32 (new : Int)))
              clear Q1 Q2
              generalize l.getD i 0 = old at *
              go_wp2
              go_roundw
              case rel => exact ⟨i + 1, l.set i new, by omega, by omega, by go_num, HN.out, HV.out, HF.out, X1.out, X2.out⟩
              case measure => simp [intOf]; omega
        · obtain rfl : i = 60 := by omega
          have hfin : l = words bs 8 := hf
          have HF := Lib.hid hfin
          clear hf hfin
          go_wp2
          go_ret
          exact ⟨w.heap.size, rfl, by rw [← HF.out]; exact H1.out, Nat.le_refl _, H2.out⟩

end Go.Proofs.YtdjknmnmacppdaaDoor
